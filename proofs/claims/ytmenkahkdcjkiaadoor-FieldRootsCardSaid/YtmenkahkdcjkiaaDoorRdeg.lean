/- The reference's degree, rest and Modulus by their meaning. -/
import Derived.Test.YtmenkahkdcjkiaaDoorProg
import Derived.Test.YtmenkahkdcjkiaaDoorBase
import Derived.Test.YtmenkahkdcjkiaaDoorAri
import Derived.Outline
namespace Go.Proofs.YtmenkahkdcjkiaaDoor
open Go.RowKit

/-- the degree, -1 for 0 -/
def deg (a : Nat) : Int := if a = 0 then -1 else (a.log2 : Int)
theorem deg_half {a : Nat} (h : a ≠ 0) : deg a = deg (a / 2) + 1 := by
  unfold deg
  rw [if_neg h, Nat.log2_def]
  by_cases h2 : 2 ≤ a
  · rw [if_pos h2, if_neg (by omega)]; omega
  · rw [if_neg h2, if_pos (by omega)]; rfl
theorem deg_le {a : Nat} (h : a < 4294967296) : deg a ≤ 31 ∧ -1 ≤ deg a := by
  unfold deg
  split
  · omega
  · rename_i h0
    have h1 := (dg_of_pos h0).1
    have : a.log2 < 32 := by
      by_cases hh : a.log2 < 32
      · exact hh
      · have := Nat.pow_le_pow_right (n := 2) (by omega) (show 32 ≤ a.log2 by omega)
        omega
    omega

set_option maxHeartbeats 400000 in
theorem degree_any (a0 : Nat) (w : World) (ha : a0 < 4294967296) : Calls Tryd.prog 37 #[.int .i64 a0] w fun e w' => e = .returned (.int .i64 (deg a0)) ∧ w = w' := by
  have hd0 := deg_le ha
  go_enter Tryd.func37, Tryd.ntmps37
  go_wp2
  go_loop [0, 3] (fun av nv => ∃ (a : Nat) (n : Int), av = .int .i64 a ∧ nv = .int .i64 n ∧ a ≤ a0 ∧ -1 ≤ n ∧ n ≤ 31 ∧ Hid (n + deg a + 1 = deg a0)) (fun av _ => (intOf av).toNat)
  case atStart => exact ⟨a0, -1, rfl, rfl, Nat.le_refl _, by omega, by omega, Lib.hid (by omega)⟩
  case round =>
    obtain ⟨a, n, rfl, rfl, hle, hn1, hn2, he⟩ := hrel
    by_cases h0 : a = 0
    · subst h0
      have HE := Lib.hid (show n = deg a0 by have := he.out; rw [show deg 0 = -1 from rfl] at this; omega)
      go_wp2
      go_ret
      exact ⟨ret_int HE.out, rfl⟩
    · have h0' : 0 < a := by omega
      have hh := deg_half h0
      have hd := deg_le (show a / 2 < 4294967296 by omega)
      have he1 := he.out
      have hb : n + 1 ≤ 31 := by omega
      have HN := Lib.hid (show n + 1 + deg (a / 2) + 1 = deg a0 by omega)
      clear hh hd he1 h0
      go_wp2
      go_round
      case rel => exact ⟨a / 2, n + 1, by go_num, rfl, by omega, by omega, by omega, HN⟩
      case measure => simp [intOf]; omega

/-- what rest keeps -/
def rfit (b a0 a : Nat) : Prop := a ≤ a0 ∧ Eqv b a0 a
theorem rfit_next {b a0 a : Nat} (hb : b ≠ 0) (ha : a ≠ 0) (h : rfit b a0 a) (hd : b.log2 ≤ a.log2) : rfit b a0 (a ^^^ b <<< (a.log2 - b.log2)) ∧ a ^^^ b <<< (a.log2 - b.log2) < a := by
  obtain ⟨h1, h2⟩ := h
  have da := dg_of_pos ha
  have hs := dg_shift (k := a.log2 - b.log2) (dg_of_pos hb)
  rw [show b.log2 + (a.log2 - b.log2) = a.log2 from by omega] at hs
  have hlt := xor_lt_of_dg da hs
  have h3 := da.1
  exact ⟨⟨by omega, h2.trans (Eqv.shift b a _).symm⟩, by omega⟩
theorem rfit_end {b a0 a : Nat} (hb : b ≠ 0) (h : rfit b a0 a) (hd : deg a < deg b) : rem b.log2 b a0 = a := by
  refine rem_eq (dg_of_pos hb) ?_ h.2
  unfold deg at hd
  rw [if_neg hb] at hd
  by_cases ha : a = 0
  · subst ha; exact Nat.two_pow_pos _
  · rw [if_neg ha] at hd
    have h1 := (dg_of_pos ha).2
    have := Nat.pow_le_pow_right (n := 2) (by omega) (show a.log2 + 1 ≤ b.log2 by omega)
    omega
set_option maxHeartbeats 1000000 in
theorem rest_any (a0 b : Nat) (w : World) (ha : a0 < 4294967296) (hb : 0 < b) (hb2 : b < 131072) : Calls Tryd.prog 38 #[.int .i64 a0, .int .i64 b] w fun e w' => e = .returned (.int .i64 (rem b.log2 b a0 : Nat)) ∧ w = w' := by
  have hb0 : b ≠ 0 := by omega
  have HDB := Lib.hid (show deg b = (b.log2 : Int) from if_neg hb0)
  go_enter Tryd.func38, Tryd.ntmps38
  go_wp2_with fail
  go_loop [0] (fun av => ∃ a : Nat, av = .int .i64 a ∧ a < 4294967296 ∧ Hid (rfit b a0 a)) (fun av => (intOf av).toNat)
  case atStart => exact ⟨a0, rfl, ha, Lib.hid ⟨Nat.le_refl _, Eqv.refl b a0⟩⟩
  case round =>
    obtain ⟨a, rfl, ha4, hf⟩ := hrel
    go_wp2_with fail
    refine (degree_any a _ ha4).mono ?_
    rintro e w' ⟨rfl, rfl⟩
    go_wp2_with fail
    refine (degree_any b _ (by omega)).mono ?_
    rintro e w' ⟨rfl, rfl⟩
    by_cases hd : deg b ≤ deg a
    · have ha0 : a ≠ 0 := fun e => by subst e; rw [HDB.out] at hd; have : deg 0 = -1 := rfl; omega
      have hda : deg a = (a.log2 : Int) := if_neg ha0
      have hl : b.log2 ≤ a.log2 := by rw [HDB.out, hda] at hd; omega
      obtain ⟨hn1, hn2⟩ := rfit_next hb0 ha0 hf.out hl
      have hda31 := (deg_le ha4).1
      rw [hda] at hda31
      obtain ⟨k, hk⟩ : ∃ k, k = a.log2 - b.log2 := ⟨_, rfl⟩
      have hkk : deg a - deg b = (k : Int) := by rw [hda, HDB.out]; omega
      have hk31 : k ≤ 31 := by omega
      have hsh : b <<< k = b * 2 ^ k := Nat.shiftLeft_eq b k
      have hbk : b * 2 ^ k < 4611686018427387904 := by
        have h1 := Nat.pow_le_pow_right (n := 2) (by omega) hk31
        have := Nat.mul_le_mul (show b ≤ 131071 by omega) h1
        omega
      have hX := xor64 a (b * 2 ^ k) (by omega) hbk
      rw [← hk, hsh] at hn1 hn2
      have hc : (b : Int) * 2 ^ k = ((b * 2 ^ k : Nat) : Int) := by rw [Int.natCast_mul, Int.natCast_pow]; rfl
      obtain ⟨M, hM⟩ : ∃ M, M = b * 2 ^ k := ⟨_, rfl⟩
      rw [← hM] at hX hn1 hn2 hbk hc
      obtain ⟨X, hX0⟩ : ∃ X, X = a ^^^ M := ⟨_, rfl⟩
      rw [← hX0] at hX hn1 hn2
      have HN := Lib.hid hn1
      obtain ⟨la, hla⟩ : ∃ la, la = a.log2 := ⟨_, rfl⟩
      obtain ⟨lb, hlb⟩ : ∃ lb, lb = b.log2 := ⟨_, rfl⟩
      have HDA := Lib.hid (hla ▸ hda)
      have HDB' := Lib.hid (hlb ▸ HDB.out)
      have hk2 : (la : Int) - (lb : Int) = (k : Int) := by rw [hla, hlb]; omega
      clear hn1 hX0 hM hk hsh hda hl hda31 hkk hla hlb
      go_wp2_with fail
      refine (degree_any a _ ha4).mono ?_
      rintro e w' ⟨rfl, rfl⟩
      rw [HDA.out]
      go_wp2_with fail
      refine (degree_any b _ (by omega)).mono ?_
      rintro e w' ⟨rfl, rfl⟩
      rw [HDB'.out]
      go_wp2_with fail
      go_round
      case rel => exact ⟨X, rfl, by omega, HN⟩
      case measure => simp [intOf]; omega
    · have HE := Lib.hid (rfit_end hb0 hf.out (by omega))
      go_wp2_with fail
      go_ret
      exact ⟨ret_int (by rw [HE.out]), rfl⟩
end Go.Proofs.YtmenkahkdcjkiaaDoor
