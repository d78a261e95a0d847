/- The reference's In, Within, conjugate and Normal. -/
import Derived.Test.YtdcilefiacohnaaNorm2
namespace Go.Proofs.Ytdcilefiacohnaa
open Go Go.RowKit

set_option maxRecDepth 100000 in
set_option maxHeartbeats 2000000 in
theorem refIn_any (u v : Value) (ps : List (List Int)) (p : List Int) (w : World) (h : Sps w u ps) (k : Sl w v p) (hx : ∀ i, i < ps.length → (ps.getD i []).length ≤ 1000000) (hp : p.length ≤ 1000000) (hl : ps.length ≤ 1000000) :
    Calls Try.prog 37 #[u, v] w fun e w' => ∃ r, e = .returned (.bool r) ∧ Says r (p ∈ ps) ∧ Below w.heap.size w w' := by
  have HK := Lib.hid k
  have HX := Lib.hid hx
  obtain ⟨a, cap, rfl, h⟩ := h
  obtain ⟨va, vc, rfl, _⟩ := k
  obtain ⟨n, hn⟩ : ∃ n, n = ps.length := ⟨_, rfl⟩
  obtain ⟨q, hq⟩ : ∃ q, q = p.length := ⟨_, rfl⟩
  have HN := Lib.hid hn
  rw [← hn] at hl ⊢
  rw [← hq] at HK ⊢
  have HC := Lib.hid h
  have HP := Lib.hid hp
  clear h hx hn hq hp
  go_enter Try.func37, Try.ntmps37
  go_wp2_with fail
  go_loopw [5] (fun i wr => ∃ k : Nat, i = .int .i64 k ∧ k ≤ n ∧ Hid (∀ i, i < k → ps.getD i [] ≠ p) ∧ Hid (Below w.heap.size w wr)) (fun i _ => n - (intOf i).toNat)
  case atStart => exact ⟨0, rfl, Nat.zero_le _, Lib.hid (fun i hi => by omega), Lib.hid (Below.refl _ _)⟩
  case round =>
    obtain ⟨k, rfl, hk, HT, HB⟩ := hrel
    by_cases hlt : k < n
    · rcases HC.out with h | ⟨b, off, rfl, h⟩
      · have := HN.out; rw [h] at this; simp at this; omega
      obtain ⟨x, g0, s0⟩ := h k (by rw [← HN.out]; exact hlt)
      have g1 : wr.cell? ⟨b, off + k, none⟩ = some x := (HB.out.cell (p := ⟨b, off + k, none⟩) (World.block_lt_of_cell? w _ g0)).trans g0
      obtain ⟨z, hz⟩ : ∃ z, z = decide (ps.getD k [] = p) := ⟨_, rfl⟩
      have HCall := Lib.hid (show Calls Try.prog 42 #[x, .slice va q vc] wr fun e w' => e = .returned (.bool z) ∧ Below wr.heap.size wr w' from by
        rw [hz]
        exact (same_any _ _ _ _ _ (s0.below HB.out) (HK.out.below HB.out) (HX.out k (by rw [← HN.out]; exact hlt)) HP.out).mono fun e w' ⟨he, i, hi⟩ => ⟨he, by rw [hi]; exact below_drewN' (Below.refl _ _) i⟩)
      have HZ := Lib.hid hz
      obtain ⟨xa, xc, rfl, _⟩ := s0
      obtain ⟨l, hl0⟩ : ∃ l, l = (ps.getD k []).length := ⟨_, rfl⟩
      rw [← hl0] at g1 HCall
      clear h g0 hz hl0
      cases z with
      | true =>
        have HS := Lib.hid (show Says true (p ∈ ps) from Says.yes (by rw [← of_decide_eq_true HZ.out.symm]; simp [show k < ps.length by rw [← HN.out]; exact hlt]))
        go_wp2_with fail
        refine HCall.out.mono ?_
        rintro e w2 ⟨rfl, hb⟩
        have HB2 := Lib.hid (HB.out.trans (hb.mono HB.out.size))
        clear hb
        go_wp2_with fail
        go_ret
        exact ⟨true, rfl, HS.out, HB2.out⟩
      | false =>
        have HT2 := Lib.hid (show ∀ i, i < k + 1 → ps.getD i [] ≠ p from fun i hi => by
          by_cases e : i = k
          · subst e; exact of_decide_eq_false HZ.out.symm
          · exact HT.out i (by omega))
        go_wp2_with fail
        refine HCall.out.mono ?_
        rintro e w2 ⟨rfl, hb⟩
        have HB2 := Lib.hid (HB.out.trans (hb.mono HB.out.size))
        clear hb
        go_wp2_with fail
        go_roundw
        case rel => exact ⟨k + 1, by go_num, by omega, HT2, HB2⟩
        case measure => simp [intOf]; omega
    · have HS := Lib.hid (show Says false (p ∈ ps) from Says.no fun hm => by
        obtain ⟨i, hi, rfl⟩ := List.getElem_of_mem hm
        exact HT.out i (by rw [← HN.out] at hi; omega) (by simp [hi]))
      go_wp2_with fail
      go_ret
      exact ⟨false, rfl, HS.out, HB.out⟩

set_option maxRecDepth 100000 in
set_option maxHeartbeats 2000000 in
theorem refWithin_any (u v : Value) (ps qs : List (List Int)) (w : World) (h : Sps w u ps) (k : Sps w v qs) (hp : IsGrp ps) (hq : IsGrp qs) :
    Calls Try.prog 32 #[u, v] w fun e w' => ∃ r, e = .returned (.bool r) ∧ Says r (∀ q ∈ qs, q ∈ ps) ∧ Below w.heap.size w w' := by
  have HH := Lib.hid h
  obtain ⟨a, cap, rfl, h⟩ := h
  obtain ⟨a2, cap2, rfl, k⟩ := k
  obtain ⟨m, hm⟩ : ∃ m, m = ps.length := ⟨_, rfl⟩
  obtain ⟨n, hn⟩ : ∃ n, n = qs.length := ⟨_, rfl⟩
  have HN := Lib.hid hn
  have HM := Lib.hid hm
  have hn5 : n ≤ 5040 := by rw [hn]; exact hq.1.2.1
  have hn1 : 1 ≤ n := by rw [hn]; exact hq.1.1
  have hm1 : 1 ≤ m := by rw [hm]; exact hp.1.1
  have hm5 : m ≤ 5040 := by rw [hm]; exact hp.1.2.1
  have HP := Lib.hid hp
  have HQ := Lib.hid hq
  rw [← hm] at HH ⊢
  rw [← hn]
  rcases k with k | ⟨b, off, rfl, k⟩
  · rw [k] at hn; simp at hn; omega
  rcases h with h | ⟨b0, off0, rfl, h⟩
  · rw [h] at hm; simp at hm; omega
  have HC := Lib.hid k
  obtain ⟨x0, y0, s0⟩ := h 0 (by omega)
  obtain ⟨x1, y1, s1⟩ := k 0 (by omega)
  rw [Nat.add_zero] at y0 y1
  have hb0 : b0 < w.heap.size := World.block_lt_of_cell? w _ y0
  have hb1 : b < w.heap.size := World.block_lt_of_cell? w _ y1
  obtain ⟨xa0, xc0, rfl, _⟩ := s0
  obtain ⟨xa1, xc1, rfl, _⟩ := s1
  obtain ⟨l0, hl0⟩ : ∃ l0, l0 = (ps.getD 0 []).length := ⟨_, rfl⟩
  obtain ⟨l1, hl1⟩ : ∃ l1, l1 = (qs.getD 0 []).length := ⟨_, rfl⟩
  rw [← hl0] at y0
  rw [← hl1] at y1
  have HL0 := Lib.hid hl0
  have HL1 := Lib.hid hl1
  have Y0 := Lib.hid y0
  have Y1 := Lib.hid y1
  clear h k hp hq hm hn hl0 hl1 y0 y1
  go_enter Try.func32, Try.ntmps32
  go_wp2_with fail
  go_loopw [5] (fun i wr => ∃ k : Nat, i = .int .i64 k ∧ k ≤ n ∧ Hid (∀ i, i < k → qs.getD i [] ∈ ps) ∧ Hid (Below w.heap.size w wr)) (fun i _ => n - (intOf i).toNat)
  case atStart => exact ⟨0, rfl, Nat.zero_le _, Lib.hid (fun i hi => by omega), Lib.hid (Below.refl _ _)⟩
  case round =>
    obtain ⟨k, rfl, hk, HT, HB⟩ := hrel
    by_cases hlt : k < n
    · obtain ⟨x, g0, s0⟩ := HC.out k (by rw [← HN.out]; exact hlt)
      have g1 : wr.cell? ⟨b, off + k, none⟩ = some x := (HB.out.cell (p := ⟨b, off + k, none⟩) hb1).trans g0
      have HCall := Lib.hid (refIn_any _ _ ps (qs.getD k []) wr (HH.out.below HB.out) (s0.below HB.out) HP.out.small (HQ.out.small k (by rw [← HN.out]; exact hlt)) (by rw [← HM.out]; omega))
      obtain ⟨xa, xc, rfl, _⟩ := s0
      obtain ⟨l, hl⟩ : ∃ l, l = (qs.getD k []).length := ⟨_, rfl⟩
      rw [← hl] at g1 HCall
      clear g0 hl
      go_wp2_with fail
      refine HCall.out.mono ?_
      rintro e w2 ⟨r, rfl, hr, hb⟩
      have HR := Lib.hid hr
      have HB2 := Lib.hid (HB.out.trans (hb.mono HB.out.size))
      clear hb hr
      cases r with
      | true =>
        have HT2 := Lib.hid (show ∀ i, i < k + 1 → qs.getD i [] ∈ ps from fun i hi => by
          by_cases e : i = k
          · subst e; exact HR.out.1 rfl
          · exact HT.out i (by omega))
        go_wp2_with fail
        go_roundw
        case rel => exact ⟨k + 1, by go_num, by omega, HT2, HB2⟩
        case measure => simp [intOf]; omega
      | false =>
        have HS := Lib.hid (show Says false (∀ q ∈ qs, q ∈ ps) from Says.no fun hm => by
          have := HR.out.2 (hm _ (by simp [show k < qs.length by rw [← HN.out]; exact hlt]))
          cases this)
        go_wp2_with fail
        go_ret
        exact ⟨false, rfl, HS.out, HB2.out⟩
    · have HA := Lib.hid (show ∀ q ∈ qs, q ∈ ps from fun q hq => by
        obtain ⟨i, hi, rfl⟩ := List.getElem_of_mem hq
        have := HT.out i (by rw [← HN.out] at hi; omega)
        simpa [hi] using this)
      have hll : l0 = l1 := by
        have h0 : qs.getD 0 [] ∈ qs := by simp [show 0 < qs.length by rw [← HN.out]; omega]
        rw [HL0.out, HL1.out]; exact (HP.out.1.mem (HA.out _ h0)).2.symm
      have g0 : wr.cell? ⟨b0, off0, none⟩ = some (.slice xa0 l0 xc0) := (HB.out.cell (p := ⟨b0, off0, none⟩) hb0).trans Y0.out
      have g1 : wr.cell? ⟨b, off, none⟩ = some (.slice xa1 l1 xc1) := (HB.out.cell (p := ⟨b, off, none⟩) hb1).trans Y1.out
      subst hll
      go_wp2_with fail
      go_quiet (fail)
      go_wp2_with fail
      go_ret
      exact ⟨true, rfl, Says.yes HA.out, below_drewN' HB.out nq⟩

/-- the conjugate of permutations, in the reference's order -/
def conjP (c s : List Int) : List Int := mulL (mulL (invL c) s) c
theorem conjP_valid {c s : List Int} (hc : validL c = true) (hs : validL s = true) (hl : c.length = s.length) : validL (conjP c s) = true ∧ (conjP c s).length = c.length := by
  unfold conjP
  exact ⟨mulL_valid (mulL_valid (invL_valid hc) hs (by rw [length_invL]; exact hl)) hc (by rw [length_mulL, length_invL]), by rw [length_mulL, length_mulL, length_invL]⟩
theorem pk7_conj {c s : List Int} (hc : validL c = true) (hs : validL s = true) (hl : c.length = s.length) : pk7 (conjP c s) = conjL (pk7 s) (pk7 c) := by
  unfold conjP conjL
  rw [pk7_mul (mulL_valid (invL_valid hc) hs (by rw [length_invL]; exact hl)) hc (by rw [length_mulL, length_invL]), pk7_mul (invL_valid hc) hs (by rw [length_invL]; exact hl), pk7_inv hc]

set_option maxHeartbeats 1000000 in
theorem refcj_any (u v : Value) (c s : List Int) (w : World) (h : Sl w u c) (k : Sl w v s) (hc : validL c = true) (hs : validL s = true) (hl : c.length = s.length) :
    Calls Try.prog 72 #[u, v] w fun e w' => ∃ x, e = .returned x ∧ Ow w.heap.size w' x (conjP c s) ∧ Below w.heap.size w w' := by
  have HH := Lib.hid h
  have HK := Lib.hid k
  have HV := Lib.hid hc
  have HW := Lib.hid hs
  have h7 := ((validL_iff _).1 hc).2.1
  obtain ⟨a, ca, rfl, _⟩ := h
  obtain ⟨b, cb, rfl, _⟩ := k
  obtain ⟨n, hn⟩ : ∃ n, n = c.length := ⟨_, rfl⟩
  have HN := Lib.hid hn
  have HL := Lib.hid hl
  rw [← hl, ← hn] at HK
  rw [← hn] at HH h7
  rw [← hl, ← hn]
  clear hc hs hl hn
  go_enter Try.func72, Try.ntmps72
  go_wp2_with fail
  refine (refinv_any _ c _ HH.out (by rw [← HN.out]; omega) (inR_of_valid HV.out)).mono ?_
  rintro e w1 ⟨x, rfl, hx, hb1⟩
  have HX := Lib.hid hx.sl
  have HB1 := Lib.hid hb1
  have HH1 := Lib.hid (HH.out.below hb1)
  have HK1 := Lib.hid (HK.out.below hb1)
  obtain ⟨xa, xc, e1, _⟩ := hx.sl
  rw [length_invL, ← HN.out] at e1
  subst e1
  clear hx hb1
  go_wp2_with fail
  refine (refmul_any _ _ (invL c) s _ HX.out HK1.out (by rw [length_invL, ← HN.out]; omega) (by rw [← HL.out, ← HN.out]; omega) (by have := inR_of_valid (invL_valid HV.out); rwa [length_invL, HL.out] at this)).mono ?_
  rintro e w2 ⟨y, rfl, hy, hb2⟩
  have HY := Lib.hid hy.sl
  have HB2 := Lib.hid (HB1.out.trans (hb2.mono HB1.out.size))
  have HH2 := Lib.hid (HH1.out.below hb2)
  obtain ⟨ya, yc, e1, _⟩ := hy.sl
  rw [length_mulL, length_invL, ← HN.out] at e1
  subst e1
  have hv2 := mulL_valid (invL_valid HV.out) HW.out (by rw [length_invL]; exact HL.out)
  have HV2 := Lib.hid hv2
  clear hy hb2 hv2
  go_wp2_with fail
  refine (refmul_any _ _ (mulL (invL c) s) c _ HY.out HH2.out (by rw [length_mulL, length_invL, ← HN.out]; omega) (by rw [← HN.out]; omega) (by have := inR_of_valid HV2.out; rwa [length_mulL, length_invL] at this)).mono ?_
  rintro e w3 ⟨z, rfl, hz, hb3⟩
  have HZ := Lib.hid (hz.mono HB2.out.size)
  have HB3 := Lib.hid (HB2.out.trans (hb3.mono HB2.out.size))
  clear hz hb3
  go_wp2_with fail
  go_ret
  exact ⟨_, rfl, HZ.out, HB3.out⟩
end Go.Proofs.Ytdcilefiacohnaa
