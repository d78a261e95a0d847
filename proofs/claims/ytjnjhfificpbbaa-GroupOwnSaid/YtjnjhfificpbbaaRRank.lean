/- The reference's Rank, by its meaning; perm.Rank of what is no permutation. -/
import Derived.Test.YtjnjhfificpbbaaProg
import Derived.Test.YtjnjhfificpbbaaBase
import Derived.Test.YtjnjhfificpbbaaRef
import Derived.Test.YtjnjhfificpbbaaRunr
import Derived.Test.YtjnjhfificpbbaaRank
import Derived.Test.YtjnjhfificpbbaaRankL
import Derived.Deep.QuietTactic
import Derived.BigQuiet
namespace Go.Proofs.Ytjnjhfificpbbaa
open Go.RowKit

theorem rk_le {p : List Int} (h7 : p.length ≤ 7) : rk p ≤ 5040 := by
  rw [← rankL_rk]; exact rankTo_le h7 _ (Nat.le_refl _)
theorem rk_drop {p : List Int} {k : Nat} (hk : k < p.length) : rk (p.drop k) = cntL (p.drop (k + 1)) (p.getD k 0) * fact (p.length - 1 - k) + rk (p.drop (k + 1)) := by
  rw [List.drop_eq_getElem_cons hk, rk, List.length_drop]
  have e : p[k] = p.getD k 0 := by simp [hk]
  rw [e, show p.length - (k + 1) = p.length - 1 - k by omega]

set_option maxHeartbeats 2000000 in
theorem refrank_any (v1 : Value) (p : List Int) (w : World) (h1 : Sl w v1 p) (h7 : p.length ≤ 7) :
    Calls Try.prog 54 #[v1] w fun e w' => e = .returned (.int .i64 (rankL p)) ∧ ∃ n, w' = w.drewN n := by
  obtain ⟨a, ca, rfl, h1⟩ := h1
  have H1 := Lib.hid h1
  clear h1
  go_enter Try.func54, Try.ntmps54
  go_wp2
  go_loopw [3, 4] (fun rv i wr => ∃ k R : Nat, k ≤ p.length ∧ i = .int .i64 k ∧ rv = .int .i64 R ∧ Hid (R + rk (p.drop k) = rk p) ∧ ∃ n, wr = w.drewN n) (fun _ i _ => p.length - (intOf i).toNat)
  case atStart => exact ⟨0, 0, Nat.zero_le _, rfl, rfl, Lib.hid (by simp), 0, rfl⟩
  case round =>
    obtain ⟨k, R, hk, rfl, rfl, hR, n, rfl⟩ := hrel
    have hrl := rk_le h7
    have hRp := hR.out
    by_cases hlt : k < p.length
    · rcases H1.out with h | ⟨b1, o1, rfl, hc⟩
      · simp [h] at hlt
      have hstep := rk_drop hlt
      have hfl := fact_le (p.length - 1 - k) (by omega)
      obtain ⟨x, hx⟩ : ∃ x, x = p.getD k 0 := ⟨_, rfl⟩
      have g1 : w.cell? ⟨b1, o1 + k, none⟩ = some (.int .i64 x) := by rw [hx]; exact hc k hlt
      rw [← hx] at hstep
      have HStep := Lib.hid hstep
      have HC := Lib.hid hc
      have hcnt : cntL (p.drop (k + 1)) x ≤ 7 := by
        have := cntL_le (p.drop (k + 1)) x
        rw [List.length_drop] at this
        omega
      clear hstep hc hx
      go_wp2
      go_loopw [5, 6] (fun cv i wr => ∃ j c : Nat, k + 1 ≤ j ∧ j ≤ p.length ∧ i = .int .i64 j ∧ cv = .int .i64 c ∧ c ≤ j ∧ Hid (cntL ((p.drop (k + 1)).take (j - (k + 1))) x = c) ∧ ∃ n, wr = w.drewN n) (fun _ i _ => p.length - (intOf i).toNat)
      case atStart => exact ⟨k + 1, 0, Nat.le_refl _, hlt, by go_num, rfl, Nat.zero_le _, Lib.hid (by simp [cntL]), n, rfl⟩
      case round =>
        obtain ⟨j, c, hj1, hj, rfl, rfl, hcj, hcc, n, rfl⟩ := hrel
        by_cases hltj : j < p.length
        · obtain ⟨y, hy⟩ : ∃ y, y = p.getD j 0 := ⟨_, rfl⟩
          have g2 : w.cell? ⟨b1, o1 + j, none⟩ = some (.int .i64 y) := by rw [hy]; exact HC.out j hltj
          have hs : cntL ((p.drop (k + 1)).take (j + 1 - (k + 1))) x = c + if y < x then 1 else 0 := by
            have e : j + 1 - (k + 1) = (j - (k + 1)) + 1 := by omega
            have e2 : (p.drop (k + 1))[j - (k + 1)]'(by rw [List.length_drop]; omega) = y := by
              rw [hy, List.getElem_drop]
              simp [show k + 1 + (j - (k + 1)) = j by omega, hltj]
            rw [e, List.take_succ_eq_append_getElem (by rw [List.length_drop]; omega), cntL_snoc, e2, hcc.out]
          have HS := Lib.hid hs
          clear hs hy
          by_cases hyx : y < x
          · have hd : decide (y < x) = true := decide_eq_true hyx
            have HS2 := Lib.hid (by have := HS.out; rwa [if_pos hyx] at this)
            clear hyx
            go_wp2
            go_quiet (fail)
            go_wp2
            go_roundw
            case rel => exact ⟨j + 1, c + 1, by omega, by omega, by go_num, by go_num, by omega, HS2, _, rfl⟩
            case measure => simp [intOf]; omega
          · have hd : decide (y < x) = false := decide_eq_false hyx
            have HS2 := Lib.hid (by have := HS.out; rwa [if_neg hyx, Nat.add_zero] at this)
            clear hyx
            go_wp2
            go_quiet (fail)
            go_wp2
            go_roundw
            case rel => exact ⟨j + 1, c, by omega, by omega, by go_num, rfl, by omega, HS2, _, rfl⟩
            case measure => simp [intOf]; omega
        · have hje : j = p.length := by omega
          have hlt3 : p.length ≤ j := by omega
          have hcf : cntL (p.drop (k + 1)) x = c := by
            have := hcc.out
            rwa [hje, List.take_of_length_le (by rw [List.length_drop]; omega)] at this
          have h2 := HStep.out
          rw [hcf] at h2
          obtain ⟨F, hF⟩ : ∃ F, F = fact (p.length - 1 - k) := ⟨_, rfl⟩
          rw [← hF] at h2 hfl
          obtain ⟨M, hM⟩ : ∃ M, M = c * F := ⟨_, rfl⟩
          rw [← hM] at h2
          have hM2 : (c : Int) * (F : Int) = (M : Int) := by rw [hM]; simp
          have hMl : M ≤ 5040 := by omega
          have hm0 : 0 ≤ (c : Int) * (F : Int) := by rw [hM2]; omega
          have hm1 : (c : Int) * (F : Int) ≤ 5040 := by rw [hM2]; omega
          have hsub : ((p.length : Int) - 1 - (k : Int)) = ((p.length - 1 - k : Nat) : Int) := by omega
          have HF := Lib.hid hF
          have H2 := Lib.hid h2
          have HM2 := Lib.hid hM2
          clear h2 hcf hje hF hM hM2
          go_wp2_with fail
          refine (reffact_any 7 (p.length - 1 - k) _ (by omega) (by omega)).mono ?_
          rintro e w3 ⟨rfl, rfl⟩
          rw [← HF.out]
          have hMsum : R + M ≤ 5040 := by have := H2.out; omega
          have hms : (R : Int) + (c : Int) * (F : Int) ≤ 5040 := by rw [HM2.out]; omega
          go_wp2
          go_roundw
          case rel => exact ⟨k + 1, R + M, by omega, by go_num, by rw [HM2.out]; rfl, Lib.hid (by have := H2.out; omega), n, rfl⟩
          case measure => simp [intOf]; omega
    · have hke : k = p.length := by omega
      have hlt3 : p.length ≤ k := by omega
      have hRe : Hid (R = rankL p) := Lib.hid (by
        have h := hR.out
        rw [hke, List.drop_of_length_le (Nat.le_refl _), rk] at h
        rw [rankL_rk]; omega)
      clear hke hRp
      go_wp2
      go_ret
      exact ⟨ret_int (by rw [hRe.out]), n, rfl⟩
end Go.Proofs.Ytjnjhfificpbbaa
