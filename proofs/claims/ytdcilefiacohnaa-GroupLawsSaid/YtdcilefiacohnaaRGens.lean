/- The reference's Generators. -/
import Derived.Test.YtdcilefiacohnaaPGR
import Derived.Test.YtdcilefiacohnaaRef
namespace Go.Proofs.Ytdcilefiacohnaa
open Go Go.RowKit

/-- list number k is a permutation of as many points as the first, or the pair is refused -/
theorem errP_gen {ps : List (List Int)} {k : Nat} : errP (ps.getD 0 []) (ps.getD k []) = 0 ↔ validL (ps.getD 0 []) = true ∧ validL (ps.getD k []) = true ∧ (ps.getD k []).length = (ps.getD 0 []).length :=
  ⟨fun h => let ⟨a, b, c⟩ := errP_zero h; ⟨a, b, c.symm⟩, fun ⟨a, b, c⟩ => errP_ok a b c.symm⟩

set_option maxRecDepth 100000 in
set_option maxHeartbeats 2000000 in
theorem refGens_any (v : Value) (ps : List (List Int)) (w : World) (h : Sps w v ps) (hx : ∀ i, i < ps.length → (ps.getD i []).length ≤ 1000000) :
    Calls Try.prog 15 #[v] w fun e w' => ∃ r, e = .returned (.bool r) ∧ Says r (GenP ps) ∧ Below w.heap.size w w' := by
  obtain ⟨a, cap, rfl, h⟩ := h
  obtain ⟨n, hn⟩ : ∃ n, n = ps.length := ⟨_, rfl⟩
  have HN := Lib.hid hn
  rw [← hn]
  by_cases h1 : n < 1
  · have HS := Lib.hid (show Says false (GenP ps) from Says.no fun hp => by have := hp.1; omega)
    have d1 : decide ((n : Int) < 1) = true := decide_eq_true (by omega)
    clear h hn
    go_enter Try.func15, Try.ntmps15
    go_wp2_with fail
    go_ret
    exact ⟨false, rfl, HS.out, Below.refl _ _⟩
  by_cases h2 : 5040 < n
  · have HS := Lib.hid (show Says false (GenP ps) from Says.no fun hp => by have := hp.2.1; omega)
    have d1 : decide ((n : Int) < 1) = false := decide_eq_false (by omega)
    have d2 : decide (5040 < (n : Int)) = true := decide_eq_true (by omega)
    clear h hn
    go_enter Try.func15, Try.ntmps15
    go_wp2_with fail
    go_ret
    exact ⟨false, rfl, HS.out, Below.refl _ _⟩
  rcases h with h | ⟨b, off, rfl, h⟩
  · rw [h] at hn; simp at hn; omega
  have HC := Lib.hid h
  have HX := Lib.hid hx
  obtain ⟨x0, g0, s0⟩ := h 0 (by omega)
  have HS0 := Lib.hid s0
  obtain ⟨xa, xc, rfl, _⟩ := s0
  rw [Nat.add_zero] at g0
  have hb0 : b < w.heap.size := World.block_lt_of_cell? w _ g0
  have G0 := Lib.hid g0
  have d1 : decide ((n : Int) < 1) = false := decide_eq_false (by omega)
  have d2 : decide (5040 < (n : Int)) = false := decide_eq_false (by omega)
  have HLO := Lib.hid (show 1 ≤ n ∧ n ≤ 5040 by omega)
  have hn5 : n ≤ 5040 := by omega
  clear h hx g0 hn
  go_enter Try.func15, Try.ntmps15
  go_wp2_with fail
  clear d1 d2 h1 h2
  go_loopw [3] (fun i wr => ∃ k : Nat, i = .int .i64 k ∧ k ≤ n ∧ Hid (∀ i, i < k → errP (ps.getD 0 []) (ps.getD i []) = 0) ∧ Hid (Below w.heap.size w wr)) (fun i _ => n - (intOf i).toNat)
  case atStart => exact ⟨0, rfl, Nat.zero_le _, Lib.hid (fun i hi => by omega), Lib.hid (Below.refl _ _)⟩
  case round =>
    obtain ⟨k, rfl, hk, HT, HB⟩ := hrel
    by_cases hlt : k < n
    · obtain ⟨x, g1, s1⟩ := HC.out k (by rw [← HN.out]; exact hlt)
      have g2 : wr.cell? ⟨b, off + k, none⟩ = some x := (HB.out.cell (p := ⟨b, off + k, none⟩) hb0).trans g1
      have c0 := (HB.out.cell (p := ⟨b, off, none⟩) hb0).trans G0.out
      have s2 := s1.below HB.out
      have s3 := HS0.out.below HB.out
      have hp0 := HX.out 0 (by rw [← HN.out]; omega)
      have hpk := HX.out k (by rw [← HN.out]; exact hlt)
      obtain ⟨z, hz⟩ : ∃ z, z = errP (ps.getD 0 []) (ps.getD k []) := ⟨_, rfl⟩
      have HCall := Lib.hid (show ∀ j, Calls Try.prog 49 #[_, x] (wr.drewN j) fun e w'' => e = .returned (.int .i64 z) ∧ ∃ i, w'' = (wr.drewN j).drewN i from fun j => by
        rw [hz]
        exact refalike_any _ _ _ _ _ (s3.below (below_drewN' (Below.refl _ _) j)) (s2.below (below_drewN' (Below.refl _ _) j)) hp0 hpk)
      have HZ := Lib.hid hz
      have HLt := Lib.hid hlt
      obtain ⟨ya, yc, rfl, _⟩ := s2
      clear g1 s1 s3 hp0 hpk hz
      by_cases h0 : z = 0
      · have D : (z != 0) = false := by rw [h0]; rfl
        have HT2 := Lib.hid (show ∀ i, i < k + 1 → errP (ps.getD 0 []) (ps.getD i []) = 0 from fun i hi => by
          by_cases e : i = k
          · subst e; rw [← HZ.out]; exact h0
          · exact HT.out i (by omega))
        clear h0
        go_wp2_with fail
        go_quiet ((go_at_call 49; exact Calls.quiet_of (HCall.out _)))
        go_wp2_with fail
        go_roundw
        case rel => exact ⟨k + 1, by go_num, by omega, HT2, Lib.hid (below_drewN' HB.out nq)⟩
        case measure => simp [intOf]; omega
      · have D : (z != 0) = true := by simpa [bne] using h0
        have HSy := Lib.hid (show Says false (GenP ps) from Says.no fun hq => by
          have q0 := hq.2.2 0 (by rw [← HN.out]; omega)
          have qk := hq.2.2 k (by rw [← HN.out]; exact HLt.out)
          exact h0 (by rw [HZ.out]; exact errP_gen.2 ⟨q0.1, qk⟩))
        clear h0
        go_wp2_with fail
        go_quiet ((go_at_call 49; exact Calls.quiet_of (HCall.out _)))
        go_wp2_with fail
        go_ret
        exact ⟨false, rfl, HSy.out, below_drewN' HB.out nq⟩
    · have HSy := Lib.hid (show Says true (GenP ps) from Says.yes ⟨by rw [← HN.out]; exact HLO.out.1, by rw [← HN.out]; exact HLO.out.2, fun i hi => (errP_gen.1 (HT.out i (by rw [← HN.out] at hi; omega))).2⟩)
      go_wp2_with fail
      go_ret
      exact ⟨true, rfl, HSy.out, HB.out⟩
end Go.Proofs.Ytdcilefiacohnaa
