/- Plain mathematics: sums of powers of the roots of unity. -/
import Derived.Test.YtmenkahkdcjkiaaDoorFof
import Derived.Test.YtmenkahkdcjkiaaDoorLst
namespace Go.Proofs.YtmenkahkdcjkiaaDoor

/-- the sum of the first n powers of w -/
noncomputable def geo (p m w : Nat) : Nat → Nat
  | 0 => 0
  | n + 1 => fadd p m (geo p m w n) (pw (fmul p m) w n)
theorem geo_lt {p m w : Nat} (h : Vf p m) (hw : w < fQ p m) : ∀ n, geo p m w n < fQ p m
  | 0 => by have := h.q; show 0 < fQ p m; omega
  | n + 1 => h.fld.add_lt _ _ (geo_lt h hw n) (h.fld.pw_lt hw n)
theorem geo_shift {p m w : Nat} (h : Vf p m) (hw : w < fQ p m) (n : Nat) : fadd p m (geo p m w n) (pw (fmul p m) w n) = fadd p m 1 (fmul p m w (geo p m w n)) := by
  have F := h.fld
  induction n with
  | zero =>
    show fadd p m 0 1 = fadd p m 1 (fmul p m w 0)
    rw [F.mul_zero hw, F.zero_add F.one_lt, F.add_zero 1 F.one_lt]
  | succ n ih =>
    have h1 := geo_lt h hw n
    have h2 := F.pw_lt hw n
    have h3 := F.pw_lt hw (n + 1)
    have h4 := F.mul_lt _ _ hw h1
    show fadd p m (fadd p m (geo p m w n) (pw (fmul p m) w n)) (pw (fmul p m) w (n + 1)) = fadd p m 1 (fmul p m w (fadd p m (geo p m w n) (pw (fmul p m) w n)))
    rw [F.distrib w _ _ hw h1 h2, ih, F.add_assoc 1 _ _ F.one_lt h4 h3]
    rw [show pw (fmul p m) w (n + 1) = fmul p m (pw (fmul p m) w n) w from rfl, F.mul_comm _ w h2 hw]
theorem geo_zero {p m w n : Nat} (h : Vf p m) (hw : w < fQ p m) (h1 : w ≠ 1) (hn : pw (fmul p m) w n = 1) : geo p m w n = 0 := by
  have F := h.fld
  have hg := geo_lt h hw n
  have e := geo_shift h hw n
  rw [hn, F.add_comm _ 1 hg F.one_lt] at e
  have e2 := F.add_left F.one_lt hg (F.mul_lt _ _ hw hg) e
  by_cases h0 : geo p m w n = 0
  · exact h0
  · exfalso
    apply h1
    refine (F.mul_left hg h0 hw F.one_lt ?_)
    rw [F.mul_comm _ w hg hw, ← e2, F.mul_one _ hg]
/-- the sum of n ones -/
def onesF (p m : Nat) : Nat → Nat
  | 0 => 0
  | n + 1 => fadd p m (onesF p m n) 1
theorem onesF_lt {p m : Nat} (h : Vf p m) : ∀ n, onesF p m n < fQ p m
  | 0 => by have := h.q; show 0 < fQ p m; omega
  | n + 1 => h.fld.add_lt _ _ (onesF_lt h n) h.fld.one_lt
theorem onesF_eq {p m : Nat} (h : Vf p m) (n : Nat) : onesF p m n = n % p := by
  by_cases hm : m = 1
  · subst hm
    induction n with
    | zero => simp [onesF]
    | succ n ih =>
      show (onesF p 1 n + 1) % p = _
      rw [ih, Nat.mod_add_mod]
  · obtain rfl : p = 2 := by rcases h with ⟨h, _⟩ | ⟨h, _⟩ <;> omega
    have ex : ∀ x y, fadd 2 m x y = x ^^^ y := fun x y => by unfold fadd; rw [if_neg hm]
    induction n with
    | zero => simp [onesF]
    | succ n ih =>
      show fadd 2 m (onesF 2 m n) 1 = _
      rw [ih, ex]
      rcases (show n % 2 = 0 ∨ n % 2 = 1 by omega) with e | e
      · rw [e, show (n + 1) % 2 = 1 by omega]; rfl
      · rw [e, show (n + 1) % 2 = 0 by omega]; rfl
theorem geo_one {p m : Nat} (h : Vf p m) (n : Nat) : geo p m 1 n = onesF p m n := by
  induction n with
  | zero => rfl
  | succ n ih => show fadd p m (geo p m 1 n) (pw (fmul p m) 1 n) = fadd p m (onesF p m n) 1; rw [ih, h.fld.one_pw]
/-- the sum of the powers e of the n roots of unity -/
theorem geo_root {p m r n e : Nat} (h : Vf p m) (hr : r < fQ p m) (ho : Ord (fmul p m) r n) : geo p m (pw (fmul p m) r e) n = if e % n = 0 then n % p else 0 := by
  have F := h.fld
  split
  · rename_i he
    rw [(ho e).2 (Nat.dvd_of_mod_eq_zero he), geo_one h, onesF_eq h]
  · rename_i he
    refine geo_zero h (F.pw_lt hr e) (fun h1 => he (Nat.mod_eq_zero_of_dvd ((ho e).1 h1))) ?_
    rw [← F.pw_mul hr]
    exact (ho _).2 (Nat.dvd_mul_left n e)
end Go.Proofs.YtmenkahkdcjkiaaDoor
