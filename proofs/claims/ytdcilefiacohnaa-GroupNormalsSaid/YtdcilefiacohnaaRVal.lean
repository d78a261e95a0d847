/- The reference's Valid: a list is a group. -/
import Derived.Test.YtdcilefiacohnaaRCL
import Derived.Test.YtdcilefiacohnaaGfr
namespace Go.Proofs.Ytdcilefiacohnaa
open Go Go.RowKit

theorem wp_region_held_all {P : Program} {S : World → Prop} {Q' : Exit → Act → World → Prop} {id : Nat} {a : Act} {w : World} {l : List Oper} (hm : P.follows .mixedOrders = true)
    (h : wpAnyH P .any l.toArray (Only fun a' w' => Q' .normal a' w') S l.length (Array.replicate l.length false) a w.drew) : (Code.region id l.toArray true).wp P Q' a w :=
  wp_mono (wp_region_held (S := S) (Q := Only fun a' w' => Q' .normal a' w') hm h) fun e a' w' hq => by
    cases e <;> first | exact hq.2 | cases hq.1
theorem pks_mem {ps : List (List Int)} (hg : GenP ps) {p : List Int} (hl : p.length = (ps.getD 0 []).length) : pk7 p ∈ pks ps ↔ p ∈ ps := by
  unfold pks
  rw [List.mem_map]
  constructor
  · rintro ⟨q, hq, e⟩
    rw [← pk7_same ((hg.mem hq).2.trans hl.symm) e]; exact hq
  · exact fun h => ⟨p, h, rfl⟩
/-- in the reference's words -/
def IsGrpR (ps : List (List Int)) : Prop := GenP ps ∧ riseTo ps ps.length ∧ idL (ps.getD 0 []).length ∈ ps ∧ ∀ i, i < ps.length → ∀ k, k < ps.length → mulL (ps.getD i []) (ps.getD k []) ∈ ps
theorem grp_iff (ps : List (List Int)) : IsGrpR ps ↔ IsGrp ps := by
  constructor
  · rintro ⟨hg, hr, h1, h2⟩
    refine ⟨hg, hr, fun a ha => ?_⟩
    have h7 := ((validL_iff _).1 (hg.2.2 0 hg.1).1).2.1
    have := ha.least (S := fun a => ∃ q ∈ ps, a = pk7 q) ⟨_, h1, (pk7_id h7).symm⟩ (fun a g ⟨q, hq, e⟩ hm => by
      obtain ⟨g', hg', rfl⟩ := List.mem_map.1 hm
      obtain ⟨v1, v2⟩ := hg.mem hq
      obtain ⟨u1, u2⟩ := hg.mem hg'
      refine ⟨mulL q g', ?_, by rw [e, pk7_mul v1 u1 (v2.trans u2.symm)]⟩
      obtain ⟨i, hi, rfl⟩ := List.getElem_of_mem hq
      obtain ⟨k, hk, rfl⟩ := List.getElem_of_mem hg'
      have := h2 i hi k hk
      simpa [hi, hk] using this)
    obtain ⟨q, hq, rfl⟩ := this
    exact List.mem_map.2 ⟨q, hq, rfl⟩
  · rintro ⟨hg, hr, hc⟩
    have h7 := ((validL_iff _).1 (hg.2.2 0 hg.1).1).2.1
    refine ⟨hg, hr, ?_, fun i hi k hk => ?_⟩
    · rw [← pks_mem hg (length_idL _), pk7_id h7]; exact hc _ .one
    · obtain ⟨v1, v2⟩ := hg.2.2 i hi
      obtain ⟨u1, u2⟩ := hg.2.2 k hk
      have m1 : ps.getD i [] ∈ ps := by simp [hi]
      have m2 : ps.getD k [] ∈ ps := by simp [hk]
      rw [← pks_mem hg ((length_mulL _ _).trans v2), pk7_mul v1 u1 (v2.trans u2.symm)]
      exact hc _ ((Gen.of_mem hg.els (List.mem_map.2 ⟨_, m1, rfl⟩)).mul hg.els (Gen.of_mem hg.els (List.mem_map.2 ⟨_, m2, rfl⟩)))

set_option maxRecDepth 100000 in
set_option maxHeartbeats 4000000 in
theorem refIs_any (v : Value) (ps : List (List Int)) (w : World) (h : Sps w v ps) (hx : ∀ i, i < ps.length → (ps.getD i []).length ≤ 1000000) :
    Calls Try.prog 19 #[v] w fun e w' => ∃ r, e = .returned (.bool r) ∧ Says r (IsGrp ps) ∧ Below w.heap.size w w' := by
  have HS := Lib.hid h
  have HX := Lib.hid hx
  obtain ⟨a, cap, rfl, h⟩ := h
  obtain ⟨m, hm⟩ : ∃ m, m = ps.length := ⟨_, rfl⟩
  have HM := Lib.hid hm
  rw [← hm] at HS ⊢
  clear hm hx
  have HQ := Lib.hid (grp_iff ps)
  go_enter Try.func19, Try.ntmps19
  go_wp2_with fail
  refine (refGens_any _ ps _ HS.out HX.out).mono ?_
  rintro e w1 ⟨r, rfl, hs, hb1⟩
  have HSy := Lib.hid hs
  have HB1 := Lib.hid hb1
  clear hs hb1
  cases r with
  | false =>
    have HF := Lib.hid (show Says false (IsGrp ps) from Says.no fun hp => by have := HSy.out.2 hp.1; cases this)
    clear HSy
    go_wp2_with fail
    go_ret
    exact ⟨false, rfl, HF.out, HB1.out⟩
  | true =>
    have HG := Lib.hid (HSy.out.1 rfl)
    clear HSy
    have hm1 : 1 ≤ m := by rw [HM.out]; exact HG.out.1
    have hm2 : m ≤ 5040 := by rw [HM.out]; exact HG.out.2.1
    rcases h with h | ⟨b, off, rfl, h⟩
    · have := HM.out; rw [h] at this; simp at this; omega
    have HC := Lib.hid h
    obtain ⟨x0, g0, _⟩ := h 0 (by rw [← HM.out]; omega)
    have hbw : b < w.heap.size := World.block_lt_of_cell? w _ g0
    clear h g0
    go_wp2_with fail
    go_loopw [3] (fun i wr => ∃ k : Nat, i = .int .i64 ((k + 1 : Nat) : Int) ∧ k + 1 ≤ m ∧ Hid (riseTo ps (k + 1)) ∧ Hid (Below w.heap.size w wr)) (fun i _ => m - (intOf i).toNat)
    case atStart => exact ⟨0, rfl, by omega, Lib.hid (fun i hi => by omega), HB1⟩
    case round =>
      clear HB1
      obtain ⟨k, rfl, hk, HR, HB⟩ := hrel
      by_cases hlt : k + 1 < m
      · obtain ⟨x, y0, s0⟩ := HC.out k (by rw [← HM.out]; omega)
        obtain ⟨y, y1, s1⟩ := HC.out (k + 1) (by rw [← HM.out]; omega)
        have q0 : wr.cell? ⟨b, off + k, none⟩ = some x := (HB.out.cell (p := ⟨b, off + k, none⟩) hbw).trans y0
        have q1 : wr.cell? ⟨b, off + (k + 1), none⟩ = some y := (HB.out.cell (p := ⟨b, off + (k + 1), none⟩) hbw).trans y1
        have t0 := s0.below HB.out
        have t1 := s1.below HB.out
        have l0 := HX.out k (by rw [← HM.out]; omega)
        have hll : (ps.getD k []).length = (ps.getD (k + 1) []).length := (HG.out.2.2 k (by rw [← HM.out]; omega)).2.trans (HG.out.2.2 (k + 1) (by rw [← HM.out]; omega)).2.symm
        obtain ⟨z, hz⟩ : ∃ z, z = lessL (ps.getD k []) (ps.getD (k + 1) []) := ⟨_, rfl⟩
        have HCall := Lib.hid (show ∀ j, Calls Try.prog 56 #[x, y] (wr.drewN j) fun e w'' => e = .returned (.bool z) ∧ ∃ i, w'' = (wr.drewN j).drewN i from fun j => by
          rw [hz]
          exact less_any _ _ _ _ _ (t0.below (below_drewN' (Below.refl _ _) j)) (t1.below (below_drewN' (Below.refl _ _) j)) l0)
        have HZ := Lib.hid hz
        have HLl := Lib.hid hll
        obtain ⟨xa, xc, rfl, _⟩ := t0
        obtain ⟨ya, yc, rfl, _⟩ := t1
        obtain ⟨lx, hlx⟩ : ∃ lx, lx = (ps.getD k []).length := ⟨_, rfl⟩
        obtain ⟨ly, hly⟩ : ∃ ly, ly = (ps.getD (k + 1) []).length := ⟨_, rfl⟩
        rw [← hlx, ← hly] at HCall
        rw [← hlx] at q0
        rw [← hly] at q1
        clear y0 y1 s0 s1 l0 hz hll hlx hly
        cases z with
        | true =>
          have HR2 := Lib.hid (HR.out.succ (less_cmp _ _ HLl.out HZ.out.symm))
          go_wp2_with fail
          go_quiet ((go_at_call 56; exact Calls.quiet_of (HCall.out _)))
          go_wp2_with fail
          go_roundw
          case rel => exact ⟨k + 1, by go_num, by omega, HR2, Lib.hid (below_drewN' HB.out nq)⟩
          case measure => simp [intOf]; omega
        | false =>
          have HF := Lib.hid (show Says false (IsGrp ps) from Says.no fun hp => by
            have := cmp_less _ _ HLl.out (hp.2.1 k (by rw [← HM.out]; omega))
            rw [← HZ.out] at this; cases this)
          go_wp2_with fail
          go_quiet ((go_at_call 56; exact Calls.quiet_of (HCall.out _)))
          go_wp2_with fail
          go_ret
          exact ⟨false, rfl, HF.out, below_drewN' HB.out nq⟩
      · have hke : k + 1 = m := by omega
        have HRise := Lib.hid (show riseTo ps ps.length from by rw [← HM.out, ← hke]; exact HR.out)
        clear HR hke
        obtain ⟨n, hn⟩ : ∃ n, n = (ps.getD 0 []).length := ⟨_, rfl⟩
        have hv0 := (validL_iff _).1 (HG.out.2.2 0 HG.out.1).1
        rw [← hn] at hv0
        have h1 := hv0.1
        have h7 := hv0.2.1
        obtain ⟨y, y0, s0⟩ := HC.out 0 (by rw [← HM.out]; omega)
        rw [Nat.add_zero] at y0
        have q0 : wr.cell? ⟨b, off, none⟩ = some y := (HB.out.cell (p := ⟨b, off, none⟩) hbw).trans y0
        obtain ⟨ya, yc, rfl, _⟩ := s0
        rw [← hn] at q0
        have HN := Lib.hid hn
        have HV := Lib.hid (show ∀ p ∈ ps, validL p = true ∧ p.length = n from fun p hp => by rw [hn]; exact HG.out.mem hp)
        obtain ⟨F, hF⟩ : ∃ F, F = fact n := ⟨_, rfl⟩
        obtain ⟨f1, f2⟩ := fact_le n h7
        rw [← hF] at f1 f2
        have HF := Lib.hid hF
        have HSr := Lib.hid (HS.out.below HB.out)
        clear hv0 y0 hn hF
        go_wp2_with fail
        refine (SetOf_any n _ ps _ h1 h7 HSr.out HV.out (by rw [← HM.out]; omega)).mono ?_
        rintro e w2 ⟨g, rfl, hlo, hmk, hb2⟩
        unfold setV
        rw [← HF.out] at hmk ⊢
        have hgl := hmk.lt
        have hz := (unrL_rank (idL_valid h1 h7)).2
        have hi0 := rks_mem HV.out (idL_valid h1 h7) (length_idL n)
        rw [rank_id n h7] at hi0
        have k2 : w2.cell? ⟨g, 0, none⟩ = some (.bool (decide (((0 : Nat) : Int) ∈ rks ps))) := by rw [hmk.cell 0, mkm_get _ _ _ f1]
        have HB2 := Lib.hid (HB.out.trans (hb2.mono HB.out.size))
        have hz2 := HB2.out.size
        have M1 := Lib.hid hmk
        clear hmk hb2 HSr hlo q0 hz
        by_cases hid : idL n ∈ ps
        · rw [decide_eq_true (hi0.2 hid)] at k2
          have HId := Lib.hid hid
          clear hid hi0
          go_wp2_with fail
          have C3 := Lib.hid (Blk.new w2 63 #[.int .i64 n, .slice (some ⟨g, 0, none⟩) F F])
          have M3 := Lib.hid (M1.out.alloc (.cells #[.int .i64 n, .slice (some ⟨g, 0, none⟩) F F] 63))
          have B3 := Lib.hid (HB2.out.alloc hz2 (.cells #[.int .i64 n, .slice (some ⟨g, 0, none⟩) F F] 63))
          obtain ⟨c, hc⟩ : ∃ c, c = w2.heap.size := ⟨_, rfl⟩
          rw [← hc] at C3 ⊢
          clear M1 HB2 hc k2 hgl hz2
          generalize w2.alloc (.cells #[.int .i64 n, .slice (some ⟨g, 0, none⟩) F F] 63) = w3 at *
          go_loopw [5] (fun iv wr => ∃ i : Nat, iv = .int .i64 i ∧ i ≤ m ∧ Hid (Below w3.heap.size w3 wr) ∧ Hid (∀ a, a < i → ∀ k, k < m → mulL (ps.getD a []) (ps.getD k []) ∈ ps)) (fun iv _ => m - (intOf iv).toNat)
          case atStart => exact ⟨0, rfl, Nat.zero_le _, Lib.hid (Below.refl _ _), Lib.hid (fun a ha => by omega)⟩
          case round =>
            obtain ⟨i, rfl, hi, HB4, HD⟩ := hrel
            by_cases hli : i < m
            · obtain ⟨wo, rfl⟩ : ∃ wo, wo = wr := ⟨wr, rfl⟩
              go_wp2_with fail
              go_loopw [6] (fun kv wr => ∃ k : Nat, kv = .int .i64 k ∧ k ≤ m ∧ Hid (Below w3.heap.size w3 wr) ∧ Hid (∀ j, j < k → mulL (ps.getD i []) (ps.getD j []) ∈ ps)) (fun kv _ => m - (intOf kv).toNat)
              case atStart => exact ⟨0, rfl, Nat.zero_le _, HB4, Lib.hid (fun a ha => by omega)⟩
              case round =>
                clear HB4
                obtain ⟨k, rfl, hk, HB4, HE⟩ := hrel
                by_cases hlk : k < m
                · obtain ⟨x, x0, sx⟩ := HC.out i (by rw [← HM.out]; omega)
                  obtain ⟨y, y0, sy⟩ := HC.out k (by rw [← HM.out]; omega)
                  obtain ⟨pv, pl⟩ := HG.out.2.2 i (by rw [← HM.out]; omega)
                  obtain ⟨qv, ql⟩ := HG.out.2.2 k (by rw [← HM.out]; omega)
                  rw [← HN.out] at pl ql
                  obtain ⟨p, hp⟩ : ∃ p, p = ps.getD i [] := ⟨_, rfl⟩
                  obtain ⟨q, hq⟩ : ∃ q, q = ps.getD k [] := ⟨_, rfl⟩
                  rw [← hp] at sx pv pl
                  rw [← hq] at sy qv ql
                  have cx : ∀ w', Below w3.heap.size w3 w' → w'.cell? ⟨b, off + i, none⟩ = some x := fun w' h => ((B3.out.trans (h.mono B3.out.size)).cell (p := ⟨b, off + i, none⟩) hbw).trans x0
                  have cy : ∀ w', Below w3.heap.size w3 w' → w'.cell? ⟨b, off + k, none⟩ = some y := fun w' h => ((B3.out.trans (h.mono B3.out.size)).cell (p := ⟨b, off + k, none⟩) hbw).trans y0
                  have fx := sx.below B3.out
                  have fy := sy.below B3.out
                  obtain ⟨xa, xc, e1, _⟩ := sx
                  obtain ⟨ya, yc, e2, _⟩ := sy
                  rw [pl] at e1
                  rw [ql] at e2
                  subst e1 e2
                  have av := mulL_valid pv qv (pl.trans ql.symm)
                  have al := (length_mulL p q).trans pl
                  have hR := (unrL_rank av).2
                  rw [al, ← HF.out] at hR
                  have hin := rks_mem HV.out av al
                  obtain ⟨R, hR0⟩ : ∃ R, R = rankL (mulL p q) := ⟨_, rfl⟩
                  rw [← hR0] at hR hin
                  obtain ⟨z, hz⟩ : ∃ z, z = decide ((R : Int) ∈ rks ps) := ⟨_, rfl⟩
                  have cr : ∀ w', Below w3.heap.size w3 w' → w'.cell? ⟨g, R, none⟩ = some (.bool z) := fun w' h => by rw [hz, (M3.out.below h).cell R, mkm_get _ _ _ hR]
                  have HZ := Lib.hid hz
                  have cs : ∀ w', Below w3.heap.size w3 w' → w'.cell? ⟨c, 1, none⟩ = some (.slice (some ⟨g, 0, none⟩) F F) := fun w' h => by rw [(C3.out.below h).cell 1]; rfl
                  have FX := Lib.hid fx
                  have FY := Lib.hid fy
                  have CX := Lib.hid cx
                  have CY := Lib.hid cy
                  have CR := Lib.hid cr
                  have CS := Lib.hid cs
                  have PV := Lib.hid pv
                  have QV := Lib.hid qv
                  have PL := Lib.hid pl
                  have QL := Lib.hid ql
                  have HP := Lib.hid hp
                  have HQ2 := Lib.hid hq
                  have HIn := Lib.hid hin
                  have AL := Lib.hid al
                  have HR0 := Lib.hid hR0
                  clear fx fy cx cy cr cs pv qv pl ql hp hq hin al av hR0 x0 y0 hz
                  go_wp2_with fail
                  refine wp_region_held_all (S := fun w' => Below w3.heap.size w3 w') (by kernel_rfl) ?_
                  have hS : Below w3.heap.size w3 wr.drew := below_drewN' HB4.out 1
                  refine held_take (i := 0) (v := .pointer (some ⟨c, 1, none⟩)) rfl rfl (by kernel_rfl) (by kernel_rfl) (by kernel_rfl) (fun w' h => by go_simp) hS ?_
                  refine held_take (i := 1) (v := .slice (some ⟨g, 0, none⟩) F F) rfl rfl (by kernel_rfl) (by kernel_rfl) (by kernel_rfl) (fun w' h => by have h1 := CS.out w' h; go_simp) hS ?_
                  refine held_take (i := 2) (v := .slice (some ⟨b, off, none⟩) m cap) rfl rfl (by kernel_rfl) (by kernel_rfl) (by kernel_rfl) (fun w' h => by go_simp) hS ?_
                  refine held_take (i := 3) (v := .int .i64 i) rfl rfl (by kernel_rfl) (by kernel_rfl) (by kernel_rfl) (fun w' h => by go_simp) hS ?_
                  refine held_take (i := 4) (v := .pointer (some ⟨b, off + i, none⟩)) rfl rfl (by kernel_rfl) (by kernel_rfl) (by kernel_rfl) (fun w' h => by go_simp) hS ?_
                  simp [Act.put]
                  refine held_take (i := 5) (v := .slice xa n xc) rfl rfl (by kernel_rfl) (by kernel_rfl) (by kernel_rfl) (fun w' h => by have h1 := CX.out w' h; go_simp) hS ?_
                  refine held_take (i := 6) (v := .slice (some ⟨b, off, none⟩) m cap) rfl rfl (by kernel_rfl) (by kernel_rfl) (by kernel_rfl) (fun w' h => by go_simp) hS ?_
                  refine held_take (i := 7) (v := .int .i64 k) rfl rfl (by kernel_rfl) (by kernel_rfl) (by kernel_rfl) (fun w' h => by go_simp) hS ?_
                  refine held_take (i := 8) (v := .pointer (some ⟨b, off + k, none⟩)) rfl rfl (by kernel_rfl) (by kernel_rfl) (by kernel_rfl) (fun w' h => by go_simp) hS ?_
                  refine held_take (i := 9) (v := .slice ya n yc) rfl rfl (by kernel_rfl) (by kernel_rfl) (by kernel_rfl) (fun w' h => by have h1 := CY.out w' h; go_simp) hS ?_
                  simp [Act.put]
                  refine held_only (i := 10) rfl rfl (by kernel_rfl) (wp_call_any 40 Try.func40 (by kernel_rfl) rfl _ _ rfl #[.slice xa n xc, .slice ya n yc] rfl ((refmul_any _ _ p q wr.drew (FX.out.below hS) (FY.out.below hS) (by have := PL.out; omega) (by have := QL.out; omega) (by rw [QL.out, ← PL.out]; exact inR_of_valid PV.out)).mono ?_))
                  rintro e w5 ⟨v, rfl, hv, hb5⟩
                  have hS5 : Below w3.heap.size w3 w5 := hS.trans (hb5.mono hS.size)
                  refine ⟨_, rfl, hS5, ?_⟩
                  have HVv := Lib.hid hv.sl
                  obtain ⟨va, vc, e1, _⟩ := hv.sl
                  rw [AL.out] at e1
                  subst e1
                  clear hv hb5
                  simp [Act.put]
                  refine held_only (i := 11) rfl rfl (by kernel_rfl) (wp_call_any 54 Try.func54 (by kernel_rfl) rfl _ _ rfl #[.slice va n vc] rfl ((refrank_any _ (mulL p q) w5 HVv.out (by have := AL.out; omega)).mono ?_))
                  rintro e w6 ⟨rfl, j, rfl⟩
                  have hS6 : Below w3.heap.size w3 (w5.drewN j) := below_drewN' hS5 j
                  refine ⟨_, rfl, hS6, ?_⟩
                  rw [← HR0.out]
                  generalize w5.drewN j = w6 at *
                  simp [Act.put]
                  refine held_take (i := 12) (v := .pointer (some ⟨g, R, none⟩)) rfl rfl (by kernel_rfl) (by kernel_rfl) (by kernel_rfl) (fun w' h => by go_simp) hS6 ?_
                  refine held_take (i := 13) (v := .bool z) rfl rfl (by kernel_rfl) (by kernel_rfl) (by kernel_rfl) (fun w' h => by have h1 := CR.out w' h; go_simp) hS6 ?_
                  refine held_take (i := 14) (v := .bool (!z)) rfl rfl (by kernel_rfl) (by kernel_rfl) (by kernel_rfl) (fun w' h => by go_simp) hS6 ?_
                  refine held_done (by kernel_rfl) ?_
                  have HS6 := Lib.hid hS6
                  clear hS hS5 hS6
                  simp [Act.put]
                  cases z with
                  | true =>
                    have HE2 := Lib.hid (show ∀ j, j < k + 1 → mulL (ps.getD i []) (ps.getD j []) ∈ ps from fun j hj => by
                      by_cases e : j = k
                      · subst e; rw [← HP.out, ← HQ2.out]; exact HIn.out.1 (of_decide_eq_true HZ.out.symm)
                      · exact HE.out j (by omega))
                    go_wp2_with fail
                    go_roundw
                    case rel => exact ⟨k + 1, by go_num, by omega, HS6, HE2⟩
                    case measure => simp [intOf]; omega
                  | false =>
                    have HNo := Lib.hid (show Says false (IsGrp ps) from Says.no fun hp => by
                      have h2 := (HQ.out.2 hp).2.2.2 i (by rw [← HM.out]; omega) k (by rw [← HM.out]; omega)
                      rw [← HP.out, ← HQ2.out] at h2
                      exact of_decide_eq_false HZ.out.symm (HIn.out.2 h2))
                    go_wp2_with fail
                    go_ret
                    exact ⟨false, rfl, HNo.out, B3.out.trans (HS6.out.mono B3.out.size)⟩
                · have HD2 := Lib.hid (show ∀ a, a < i + 1 → ∀ k, k < m → mulL (ps.getD a []) (ps.getD k []) ∈ ps from fun a ha j hj => by
                    by_cases e : a = i
                    · subst e; exact HE.out j (by omega)
                    · exact HD.out a (by omega) j hj)
                  go_wp2_with fail
                  go_roundw
                  case rel => exact ⟨i + 1, by go_num, by omega, HB4, HD2⟩
                  case measure => simp [intOf]; omega
            · have HY := Lib.hid (show Says true (IsGrp ps) from Says.yes (HQ.out.1 ⟨HG.out, HRise.out, by rw [← HN.out]; exact HId.out, fun a ha k hk => HD.out a (by rw [← HM.out] at ha; omega) k (by rw [← HM.out] at hk; exact hk)⟩))
              go_wp2_with fail
              go_ret
              exact ⟨true, rfl, HY.out, B3.out.trans (HB4.out.mono B3.out.size)⟩
        · rw [decide_eq_false (fun h => hid (hi0.1 h))] at k2
          have HNo := Lib.hid (show Says false (IsGrp ps) from Says.no fun hp => hid (by have := (HQ.out.2 hp).2.2.1; rwa [← HN.out] at this))
          have B3 := Lib.hid (HB2.out.alloc hz2 (.cells #[.int .i64 n, .slice (some ⟨g, 0, none⟩) F F] 63))
          clear hid hi0 hz2
          go_wp2_with fail
          go_ret
          exact ⟨false, rfl, HNo.out, B3.out⟩
end Go.Proofs.Ytdcilefiacohnaa
