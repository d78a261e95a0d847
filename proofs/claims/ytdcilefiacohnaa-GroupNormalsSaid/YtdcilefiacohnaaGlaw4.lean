/- The reference's Normal; GroupNormals. -/
import Derived.Test.YtdcilefiacohnaaRNor
namespace Go.Proofs.Ytdcilefiacohnaa
open Go Go.RowKit

set_option maxRecDepth 100000 in
set_option maxHeartbeats 4000000 in
theorem refNor_any (u v : Value) (ps qs : List (List Int)) (w : World) (h : Sps w u ps) (k : Sps w v qs) (hp : IsGrp ps) (hq : IsGrp qs) (hn0 : (qs.getD 0 []).length = (ps.getD 0 []).length) :
    Calls Try.prog 33 #[u, v] w fun e w' => ∃ r, e = .returned (.bool r) ∧ Says r (∀ i, i < ps.length → ∀ k, k < qs.length → conjP (ps.getD i []) (qs.getD k []) ∈ qs) ∧ Below w.heap.size w w' := by
  have HK := Lib.hid k
  obtain ⟨a, cap, rfl, h⟩ := h
  obtain ⟨a2, cap2, rfl, k⟩ := k
  obtain ⟨m, hm⟩ : ∃ m, m = ps.length := ⟨_, rfl⟩
  obtain ⟨m2, hm2⟩ : ∃ m2, m2 = qs.length := ⟨_, rfl⟩
  obtain ⟨n, hn⟩ : ∃ n, n = (ps.getD 0 []).length := ⟨_, rfl⟩
  have hv0 := (validL_iff _).1 (hp.1.2.2 0 hp.1.1).1
  rw [← hn] at hv0 hn0
  have h1 := hv0.1
  have h7 := hv0.2.1
  have HM := Lib.hid hm
  have HM2 := Lib.hid hm2
  have HN := Lib.hid hn
  have HN0 := Lib.hid hn0
  have hm1 : 1 ≤ m := by rw [hm]; exact hp.1.1
  have hm5 : m ≤ 5040 := by rw [hm]; exact hp.1.2.1
  have hm25 : m2 ≤ 5040 := by rw [hm2]; exact hq.1.2.1
  have hm21 : 1 ≤ m2 := by rw [hm2]; exact hq.1.1
  have HV := Lib.hid (show ∀ p ∈ qs, validL p = true ∧ p.length = n from fun p hp => by rw [← hn0]; exact hq.1.mem hp)
  have HG := Lib.hid hp.1
  have HG2 := Lib.hid hq.1
  rw [← hm]
  rw [← hm2] at HK ⊢
  rcases h with h | ⟨b, off, rfl, h⟩
  · rw [h] at hm; simp at hm; omega
  rcases k with k | ⟨b2, off2, rfl, k⟩
  · rw [k] at hm2; simp at hm2; omega
  obtain ⟨x0, g0, s0⟩ := h 0 (by omega)
  rw [Nat.add_zero] at g0
  have hbw : b < w.heap.size := World.block_lt_of_cell? w _ g0
  obtain ⟨y0, g2, _⟩ := k 0 (by omega)
  have hbw2 : b2 < w.heap.size := World.block_lt_of_cell? w _ g2
  obtain ⟨xa0, xc0, rfl, _⟩ := s0
  have HC := Lib.hid h
  have HC2 := Lib.hid k
  rw [← hn] at g0
  obtain ⟨F, hF⟩ : ∃ F, F = fact n := ⟨_, rfl⟩
  obtain ⟨f1, f2⟩ := fact_le n h7
  rw [← hF] at f1 f2
  have HF := Lib.hid hF
  clear hp hq hv0 h k hm hm2 hn hn0 hF g2
  go_enter Try.func33, Try.ntmps33
  go_wp2_with fail
  refine (SetOf_any n _ qs _ h1 h7 HK.out HV.out (by rw [← HM2.out]; omega)).mono ?_
  rintro e w2 ⟨g, rfl, hlo, hmk, hb2⟩
  unfold setV
  rw [← HF.out] at hmk ⊢
  have C3 := Lib.hid (Blk.new w2 63 #[.int .i64 n, .slice (some ⟨g, 0, none⟩) F F])
  have M3 := Lib.hid (hmk.alloc (.cells #[.int .i64 n, .slice (some ⟨g, 0, none⟩) F F] 63))
  have B3 := Lib.hid (hb2.alloc hb2.size (.cells #[.int .i64 n, .slice (some ⟨g, 0, none⟩) F F] 63))
  clear hmk hb2 hlo g0
  go_wp2_with fail
  obtain ⟨c, hc⟩ : ∃ c, c = w2.heap.size := ⟨_, rfl⟩
  rw [← hc] at C3 ⊢
  clear hc
  generalize w2.alloc (.cells #[.int .i64 n, .slice (some ⟨g, 0, none⟩) F F] 63) = w3 at *
  go_loopw [6] (fun iv wr => ∃ i : Nat, iv = .int .i64 i ∧ i ≤ m ∧ Hid (Below w3.heap.size w3 wr) ∧ Hid (∀ a, a < i → ∀ k, k < m2 → conjP (ps.getD a []) (qs.getD k []) ∈ qs)) (fun iv _ => m - (intOf iv).toNat)
  case atStart => exact ⟨0, rfl, Nat.zero_le _, Lib.hid (Below.refl _ _), Lib.hid (fun a ha => by omega)⟩
  case round =>
    obtain ⟨i, rfl, hi, HB4, HD⟩ := hrel
    by_cases hli : i < m
    · obtain ⟨wo, rfl⟩ : ∃ wo, wo = wr := ⟨wr, rfl⟩
      go_wp2_with fail
      go_loopw [7] (fun kv wr => ∃ k : Nat, kv = .int .i64 k ∧ k ≤ m2 ∧ Hid (Below w3.heap.size w3 wr) ∧ Hid (∀ j, j < k → conjP (ps.getD i []) (qs.getD j []) ∈ qs)) (fun kv _ => m2 - (intOf kv).toNat)
      case atStart => exact ⟨0, rfl, Nat.zero_le _, HB4, Lib.hid (fun a ha => by omega)⟩
      case round =>
        clear HB4
        obtain ⟨k, rfl, hk, HB4, HE⟩ := hrel
        by_cases hlk : k < m2
        · obtain ⟨x, x0, sx⟩ := HC.out i (by rw [← HM.out]; omega)
          obtain ⟨y, y0, sy⟩ := HC2.out k (by rw [← HM2.out]; omega)
          obtain ⟨pv, pl⟩ := HG.out.2.2 i (by rw [← HM.out]; omega)
          obtain ⟨qv, ql⟩ := HG2.out.2.2 k (by rw [← HM2.out]; omega)
          rw [← HN.out] at pl
          rw [HN0.out] at ql
          obtain ⟨p, hp⟩ : ∃ p, p = ps.getD i [] := ⟨_, rfl⟩
          obtain ⟨q, hq⟩ : ∃ q, q = qs.getD k [] := ⟨_, rfl⟩
          rw [← hp] at sx pv pl
          rw [← hq] at sy qv ql
          have cx : ∀ w', Below w3.heap.size w3 w' → w'.cell? ⟨b, off + i, none⟩ = some x := fun w' h => ((B3.out.trans (h.mono B3.out.size)).cell (p := ⟨b, off + i, none⟩) hbw).trans x0
          have cy : ∀ w', Below w3.heap.size w3 w' → w'.cell? ⟨b2, off2 + k, none⟩ = some y := fun w' h => ((B3.out.trans (h.mono B3.out.size)).cell (p := ⟨b2, off2 + k, none⟩) hbw2).trans y0
          have fx := sx.below B3.out
          have fy := sy.below B3.out
          obtain ⟨xa, xc, e1, _⟩ := sx
          obtain ⟨ya, yc, e2, _⟩ := sy
          rw [pl] at e1
          rw [ql] at e2
          subst e1 e2
          obtain ⟨av, al⟩ := conjP_valid pv qv (pl.trans ql.symm)
          rw [pl] at al
          have hR := (unrL_rank av).2
          rw [al, ← HF.out] at hR
          have hin := rks_mem HV.out av al
          obtain ⟨R, hR0⟩ : ∃ R, R = rankL (conjP p q) := ⟨_, rfl⟩
          rw [← hR0] at hR hin
          obtain ⟨z, hz⟩ : ∃ z, z = decide ((R : Int) ∈ rks qs) := ⟨_, rfl⟩
          have cr : ∀ w', Below w3.heap.size w3 w' → w'.cell? ⟨g, R, none⟩ = some (.bool z) := fun w' h => by rw [hz, (M3.out.below h).cell R, mkm_get _ _ _ hR]
          have HZ := Lib.hid hz
          have cs : ∀ w', Below w3.heap.size w3 w' → w'.cell? ⟨c, 1, none⟩ = some (.slice (some ⟨g, 0, none⟩) F F) := fun w' h => by rw [(C3.out.below h).cell 1]; rfl
          have FX := Lib.hid fx
          have FY := Lib.hid fy
          have CX := Lib.hid cx
          have CY := Lib.hid cy
          have CR := Lib.hid cr
          have CS := Lib.hid cs
          have PV := Lib.hid pv
          have QV := Lib.hid qv
          have HPQ := Lib.hid (pl.trans ql.symm)
          have HP := Lib.hid hp
          have HQ2 := Lib.hid hq
          have HIn := Lib.hid hin
          have AL := Lib.hid al
          have HR0 := Lib.hid hR0
          clear fx fy cx cy cr cs pv qv pl ql hp hq hin al av hR0 x0 y0 hz
          go_wp2_with fail
          refine wp_region_held_all (S := fun w' => Below w3.heap.size w3 w') (by kernel_rfl) ?_
          have hS : Below w3.heap.size w3 wr.drew := below_drewN' HB4.out 1
          refine held_take (i := 0) (v := .pointer (some ⟨c, 1, none⟩)) rfl rfl (by kernel_rfl) (by kernel_rfl) (by kernel_rfl) (fun w' h => by go_simp) hS ?_
          refine held_take (i := 1) (v := .slice (some ⟨g, 0, none⟩) F F) rfl rfl (by kernel_rfl) (by kernel_rfl) (by kernel_rfl) (fun w' h => by have h1 := CS.out w' h; go_simp) hS ?_
          refine held_take (i := 2) (v := .slice (some ⟨b, off, none⟩) m cap) rfl rfl (by kernel_rfl) (by kernel_rfl) (by kernel_rfl) (fun w' h => by go_simp) hS ?_
          refine held_take (i := 3) (v := .int .i64 i) rfl rfl (by kernel_rfl) (by kernel_rfl) (by kernel_rfl) (fun w' h => by go_simp) hS ?_
          refine held_take (i := 4) (v := .pointer (some ⟨b, off + i, none⟩)) rfl rfl (by kernel_rfl) (by kernel_rfl) (by kernel_rfl) (fun w' h => by go_simp) hS ?_
          simp [Act.put]
          refine held_take (i := 5) (v := .slice xa n xc) rfl rfl (by kernel_rfl) (by kernel_rfl) (by kernel_rfl) (fun w' h => by have h1 := CX.out w' h; go_simp) hS ?_
          refine held_take (i := 6) (v := .slice (some ⟨b2, off2, none⟩) m2 cap2) rfl rfl (by kernel_rfl) (by kernel_rfl) (by kernel_rfl) (fun w' h => by go_simp) hS ?_
          refine held_take (i := 7) (v := .int .i64 k) rfl rfl (by kernel_rfl) (by kernel_rfl) (by kernel_rfl) (fun w' h => by go_simp) hS ?_
          refine held_take (i := 8) (v := .pointer (some ⟨b2, off2 + k, none⟩)) rfl rfl (by kernel_rfl) (by kernel_rfl) (by kernel_rfl) (fun w' h => by go_simp) hS ?_
          refine held_take (i := 9) (v := .slice ya n yc) rfl rfl (by kernel_rfl) (by kernel_rfl) (by kernel_rfl) (fun w' h => by have h1 := CY.out w' h; go_simp) hS ?_
          simp [Act.put]
          refine held_only (i := 10) rfl rfl (by kernel_rfl) (wp_call_any 72 Try.func72 (by kernel_rfl) rfl _ _ rfl #[.slice xa n xc, .slice ya n yc] rfl ((refcj_any _ _ p q wr.drew (FX.out.below hS) (FY.out.below hS) PV.out QV.out HPQ.out).mono ?_))
          rintro e w5 ⟨v, rfl, hv, hb5⟩
          have hS5 : Below w3.heap.size w3 w5 := hS.trans (hb5.mono hS.size)
          refine ⟨_, rfl, hS5, ?_⟩
          have HVv := Lib.hid hv.sl
          obtain ⟨va, vc, e1, _⟩ := hv.sl
          rw [AL.out] at e1
          subst e1
          clear hv hb5
          simp [Act.put]
          refine held_only (i := 11) rfl rfl (by kernel_rfl) (wp_call_any 54 Try.func54 (by kernel_rfl) rfl _ _ rfl #[.slice va n vc] rfl ((refrank_any _ (conjP p q) w5 HVv.out (by have := AL.out; omega)).mono ?_))
          rintro e w6 ⟨rfl, j, rfl⟩
          have hS6 : Below w3.heap.size w3 (w5.drewN j) := below_drewN' hS5 j
          refine ⟨_, rfl, hS6, ?_⟩
          rw [← HR0.out]
          generalize w5.drewN j = w6 at *
          simp [Act.put]
          refine held_take (i := 12) (v := .pointer (some ⟨g, R, none⟩)) rfl rfl (by kernel_rfl) (by kernel_rfl) (by kernel_rfl) (fun w' h => by go_simp) hS6 ?_
          refine held_take (i := 13) (v := .bool z) rfl rfl (by kernel_rfl) (by kernel_rfl) (by kernel_rfl) (fun w' h => by have h1 := CR.out w' h; go_simp) hS6 ?_
          refine held_take (i := 14) (v := .bool (!z)) rfl rfl (by kernel_rfl) (by kernel_rfl) (by kernel_rfl) (fun w' h => by go_simp) hS6 ?_
          refine held_done (by kernel_rfl) ?_
          have HS6 := Lib.hid hS6
          clear hS hS5 hS6
          simp [Act.put]
          cases z with
          | true =>
            have HE2 := Lib.hid (show ∀ j, j < k + 1 → conjP (ps.getD i []) (qs.getD j []) ∈ qs from fun j hj => by
              by_cases e : j = k
              · subst e; rw [← HP.out, ← HQ2.out]; exact HIn.out.1 (of_decide_eq_true HZ.out.symm)
              · exact HE.out j (by omega))
            go_wp2_with fail
            go_roundw
            case rel => exact ⟨k + 1, by go_num, by omega, HS6, HE2⟩
            case measure => simp [intOf]; omega
          | false =>
            have HNo := Lib.hid (show Says false (∀ i, i < m → ∀ k, k < m2 → conjP (ps.getD i []) (qs.getD k []) ∈ qs) from Says.no fun hp => by
              have h2 := hp i hli k hlk
              rw [← HP.out, ← HQ2.out] at h2
              exact of_decide_eq_false HZ.out.symm (HIn.out.2 h2))
            go_wp2_with fail
            go_ret
            exact ⟨false, rfl, HNo.out, B3.out.trans (HS6.out.mono B3.out.size)⟩
        · have HD2 := Lib.hid (show ∀ a, a < i + 1 → ∀ k, k < m2 → conjP (ps.getD a []) (qs.getD k []) ∈ qs from fun a ha j hj => by
            by_cases e : a = i
            · subst e; exact HE.out j (by omega)
            · exact HD.out a (by omega) j hj)
          go_wp2_with fail
          go_roundw
          case rel => exact ⟨i + 1, by go_num, by omega, HB4, HD2⟩
          case measure => simp [intOf]; omega
    · have HY := Lib.hid (show Says true (∀ i, i < m → ∀ k, k < m2 → conjP (ps.getD i []) (qs.getD k []) ∈ qs) from Says.yes fun a ha k hk => HD.out a (by omega) k hk)
      go_wp2_with fail
      go_ret
      exact ⟨true, rfl, HY.out, B3.out.trans (HB4.out.mono B3.out.size)⟩

theorem says_eq {a b : Bool} {p : Prop} (h : Says a p) (k : Says b p) : a = b := by
  cases a <;> cases b
  · rfl
  · exact (h.2 (k.1 rfl))
  · exact (k.2 (h.1 rfl)).symm
  · rfl
theorem within_iff {ps qs : List (List Int)} (hp : IsGrp ps) (hq : IsGrp qs) : (∀ q ∈ qs, q ∈ ps) ↔ (ps.getD 0 []).length = (qs.getD 0 []).length ∧ ∀ a ∈ pks qs, a ∈ pks ps := by
  constructor
  · intro h
    have h0 : qs.getD 0 [] ∈ qs := by simp [show 0 < qs.length from hq.1.1]
    refine ⟨(hp.1.mem (h _ h0)).2.symm, fun a ha => ?_⟩
    obtain ⟨q, hq', rfl⟩ := List.mem_map.1 ha
    exact List.mem_map.2 ⟨q, h q hq', rfl⟩
  · rintro ⟨hl, h⟩ q hq'
    exact (pks_mem hp.1 ((hq.1.mem hq').2.trans hl.symm)).1 (h _ (List.mem_map.2 ⟨q, hq', rfl⟩))
theorem normR_iff {ps qs : List (List Int)} (hp : IsGrp ps) (hq : IsGrp qs) (hl : (ps.getD 0 []).length = (qs.getD 0 []).length) : (∀ i, i < ps.length → ∀ k, k < qs.length → conjP (ps.getD i []) (qs.getD k []) ∈ qs) ↔ NormP ps qs := by
  constructor
  · intro h a ha b hb
    obtain ⟨q, hq', rfl⟩ := List.mem_map.1 ha
    obtain ⟨p, hp', rfl⟩ := List.mem_map.1 hb
    obtain ⟨v1, l1⟩ := hp.1.mem hp'
    obtain ⟨v2, l2⟩ := hq.1.mem hq'
    obtain ⟨i, hi, rfl⟩ := List.getElem_of_mem hp'
    obtain ⟨k, hk, rfl⟩ := List.getElem_of_mem hq'
    have := h i hi k hk
    rw [show ps.getD i [] = ps[i] by simp [hi], show qs.getD k [] = qs[k] by simp [hk]] at this
    rw [← pk7_conj v1 v2 (l1.trans (hl.trans l2.symm))]
    exact List.mem_map.2 ⟨_, this, rfl⟩
  · intro h i hi k hk
    have m1 : ps.getD i [] ∈ ps := by simp [hi]
    have m2 : qs.getD k [] ∈ qs := by simp [hk]
    obtain ⟨v1, l1⟩ := hp.1.mem m1
    obtain ⟨v2, l2⟩ := hq.1.mem m2
    have := h _ (List.mem_map.2 ⟨_, m2, rfl⟩) _ (List.mem_map.2 ⟨_, m1, rfl⟩)
    rw [← pk7_conj v1 v2 (l1.trans (hl.trans l2.symm))] at this
    exact (pks_mem hq.1 ((conjP_valid v1 v2 (l1.trans (hl.trans l2.symm))).2.trans (l1.trans hl))).1 this

set_option maxRecDepth 100000 in
set_option maxHeartbeats 4000000 in
theorem normals_law (u v : Value) (gs hs : List (List Int)) (w : World) (h : InPs w u gs) (k : InPs w v hs) :
    Calls Try.prog 6 #[u, v] w fun e w' => e = .returned (.bool true) ∧ Below w.heap.size w w' := by
  have HI := Lib.hid h
  have HJ := Lib.hid k
  obtain ⟨⟨a, cap, rfl, _⟩, _, _⟩ := h
  obtain ⟨⟨b, cap2, rfl, _⟩, _, _⟩ := k
  obtain ⟨m, hm⟩ : ∃ m, m = gs.length := ⟨_, rfl⟩
  obtain ⟨m2, hm2⟩ : ∃ m2, m2 = hs.length := ⟨_, rfl⟩
  rw [← hm] at HI ⊢
  rw [← hm2] at HJ ⊢
  clear hm hm2
  go_enter Try.func6, Try.ntmps6
  go_wp2_with fail
  refine (closed_any _ gs _ HI.out).mono ?_
  rintro e w1 ⟨hb1, hcase⟩
  have HB1 := Lib.hid hb1
  have HJ1 := Lib.hid (show InPs w1 (.slice b m2 cap2) hs from ⟨HJ.out.1.below hb1, HJ.out.2⟩)
  have HC1 := Lib.hid hcase
  clear hb1 hcase
  rcases HC1.out with ⟨xa, xl, xc, rfl⟩ | ⟨x, ps, rfl, ho, hc, _⟩
  · clear HC1
    go_wp2_with fail
    refine (closed_any _ hs _ HJ1.out).mono ?_
    rintro e w2 ⟨hb2, hcase⟩
    have HB2 := Lib.hid (HB1.out.trans (hb2.mono HB1.out.size))
    clear hb2
    rcases hcase with ⟨ya, yl, yc, rfl⟩ | ⟨y, qs, rfl, _, _, _⟩
    · go_wp2_with fail
      refine (alive_any _).mono ?_
      rintro e w3 ⟨rfl, hb⟩
      have HB3 := Lib.hid (HB2.out.trans (hb.mono HB2.out.size))
      clear hb
      go_wp2_with fail
      go_ret
      exact ⟨rfl, HB3.out⟩
    · go_wp2_with fail
      refine (alive_any _).mono ?_
      rintro e w3 ⟨rfl, hb⟩
      have HB3 := Lib.hid (HB2.out.trans (hb.mono HB2.out.size))
      clear hb
      go_wp2_with fail
      go_ret
      exact ⟨rfl, HB3.out⟩
  · have HG := Lib.hid hc.2.1
    have HS1 := Lib.hid ho.sps
    obtain ⟨pa, pc, rfl, _⟩ := ho.sps
    obtain ⟨l, hl⟩ : ∃ l, l = ps.length := ⟨_, rfl⟩
    rw [← hl] at HS1 ⊢
    clear hc ho HC1 hl
    go_wp2_with fail
    refine (closed_any _ hs _ HJ1.out).mono ?_
    rintro e w2 ⟨hb2, hcase⟩
    have HB2 := Lib.hid (HB1.out.trans (hb2.mono HB1.out.size))
    have HS2 := Lib.hid (HS1.out.below hb2)
    clear hb2
    rcases hcase with ⟨ya, yl, yc, rfl⟩ | ⟨y, qs, rfl, ho2, hc2, _⟩
    · go_wp2_with fail
      refine (alive_any _).mono ?_
      rintro e w3 ⟨rfl, hb⟩
      have HB3 := Lib.hid (HB2.out.trans (hb.mono HB2.out.size))
      clear hb
      go_wp2_with fail
      go_ret
      exact ⟨rfl, HB3.out⟩
    · have HG2 := Lib.hid hc2.2.1
      have HT2 := Lib.hid ho2.sps
      obtain ⟨qa, qc, rfl, _⟩ := ho2.sps
      obtain ⟨l2, hl2⟩ : ∃ l2, l2 = qs.length := ⟨_, rfl⟩
      rw [← hl2] at HT2 ⊢
      have HW := Lib.hid (within_iff HG.out HG2.out)
      clear hc2 ho2 hl2
      go_wp2_with fail
      refine (refWithin_any _ _ ps qs _ HS2.out HT2.out HG.out HG2.out).mono ?_
      rintro e w3 ⟨r, rfl, hr, hb3⟩
      have HR := Lib.hid hr
      have HB3 := Lib.hid (HB2.out.trans (hb3.mono HB2.out.size))
      have HS3 := Lib.hid (HS2.out.below hb3)
      have HT3 := Lib.hid (HT2.out.below hb3)
      clear hr hb3
      cases r with
      | false =>
        have HNo := Lib.hid (show ¬ ((ps.getD 0 []).length = (qs.getD 0 []).length ∧ ∀ a ∈ pks qs, a ∈ pks ps) from fun h => by
          have := HR.out.2 (HW.out.2 h); cases this)
        go_wp2_with fail
        refine (Normal_ok _ _ ps qs _ HS3.out HT3.out HG.out HG2.out).mono ?_
        rintro e w4 ⟨hb4, ⟨_, rfl⟩ | ⟨h1, h2, _⟩⟩
        · have HB4 := Lib.hid (HB3.out.trans (hb4.mono HB3.out.size))
          clear hb4
          go_wp2_with fail
          refine (alive_any _).mono ?_
          rintro e w5 ⟨rfl, hb⟩
          have HB5 := Lib.hid (HB4.out.trans (hb.mono HB4.out.size))
          clear hb
          go_wp2_with fail
          go_ret
          exact ⟨rfl, HB5.out⟩
        · exact absurd ⟨h1, h2⟩ HNo.out
      | true =>
        have HY := Lib.hid (HW.out.1 (HR.out.1 rfl))
        have HNi := Lib.hid (normR_iff HG.out HG2.out HY.out.1)
        go_wp2_with fail
        refine (refNor_any _ _ ps qs _ HS3.out HT3.out HG.out HG2.out HY.out.1.symm).mono ?_
        rintro e w4 ⟨r, rfl, hr, hb4⟩
        have HR4 := Lib.hid hr
        have HB4 := Lib.hid (HB3.out.trans (hb4.mono HB3.out.size))
        have HS4 := Lib.hid (HS3.out.below hb4)
        have HT4 := Lib.hid (HT3.out.below hb4)
        clear hr hb4
        go_wp2_with fail
        refine (Normal_ok _ _ ps qs _ HS4.out HT4.out HG.out HG2.out).mono ?_
        rintro e w5 ⟨hb5, ⟨h1, _⟩ | ⟨_, _, r', rfl, hr'⟩⟩
        · exfalso
          rcases h1 with h1 | h1
          · exact h1 HY.out.1
          · exact h1 HY.out.2
        · have e : r' = r := says_eq hr' ⟨fun h => HNi.out.1 (HR4.out.1 h), fun h => HR4.out.2 (HNi.out.2 h)⟩
          subst e
          have HB5 := Lib.hid (HB4.out.trans (hb5.mono HB4.out.size))
          have hrr : (r' == r') = true := by cases r' <;> rfl
          clear hb5 hr'
          go_wp2_with fail
          refine (alive_any _).mono ?_
          rintro e w6 ⟨rfl, hb⟩
          have HB6 := Lib.hid (HB5.out.trans (hb.mono HB5.out.size))
          clear hb
          go_wp2_with fail
          go_ret
          exact ⟨rfl, HB6.out⟩
end Go.Proofs.Ytdcilefiacohnaa
