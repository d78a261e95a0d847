/- The reference's Valid: a list is a group. | The reference's Commutators and Derived; lists by what is in them. | The reference's Series and SameAll. | GroupSeries. -/
import Derived.Test.YtjnjhfificpbbaaRCL
import Derived.Test.YtjnjhfificpbbaaALV
namespace Go.Proofs.Ytjnjhfificpbbaa
open Go Go.RowKit

theorem wp_region_held_all {P : Program} {S : World → Prop} {Q' : Exit → Act → World → Prop} {id : Nat} {a : Act} {w : World} {l : List Oper} (hm : P.follows .mixedOrders = true)
    (h : wpAnyH P .any l.toArray (Only fun a' w' => Q' .normal a' w') S l.length (Array.replicate l.length false) a w.drew) : (Code.region id l.toArray true).wp P Q' a w :=
  wp_mono (wp_region_held (S := S) (Q := Only fun a' w' => Q' .normal a' w') hm h) fun e a' w' hq => by
    cases e <;> first | exact hq.2 | cases hq.1
theorem pks_mem {ps : List (List Int)} (hg : GenP ps) {p : List Int} (hl : p.length = (ps.getD 0 []).length) : pk7 p ∈ pks ps ↔ p ∈ ps := by
  unfold pks
  rw [List.mem_map]
  constructor
  · rintro ⟨q, hq, e⟩
    rw [← pk7_same ((hg.mem hq).2.trans hl.symm) e]; exact hq
  · exact fun h => ⟨p, h, rfl⟩
/-- in the reference's words -/
def IsGrpR (ps : List (List Int)) : Prop := GenP ps ∧ riseTo ps ps.length ∧ idL (ps.getD 0 []).length ∈ ps ∧ ∀ i, i < ps.length → ∀ k, k < ps.length → mulL (ps.getD i []) (ps.getD k []) ∈ ps
theorem grp_iff (ps : List (List Int)) : IsGrpR ps ↔ IsGrp ps := by
  constructor
  · rintro ⟨hg, hr, h1, h2⟩
    refine ⟨hg, hr, fun a ha => ?_⟩
    have h7 := ((validL_iff _).1 (hg.2.2 0 hg.1).1).2.1
    have := ha.least (S := fun a => ∃ q ∈ ps, a = pk7 q) ⟨_, h1, (pk7_id h7).symm⟩ (fun a g ⟨q, hq, e⟩ hm => by
      obtain ⟨g', hg', rfl⟩ := List.mem_map.1 hm
      obtain ⟨v1, v2⟩ := hg.mem hq
      obtain ⟨u1, u2⟩ := hg.mem hg'
      refine ⟨mulL q g', ?_, by rw [e, pk7_mul v1 u1 (v2.trans u2.symm)]⟩
      obtain ⟨i, hi, rfl⟩ := List.getElem_of_mem hq
      obtain ⟨k, hk, rfl⟩ := List.getElem_of_mem hg'
      have := h2 i hi k hk
      simpa [hi, hk] using this)
    obtain ⟨q, hq, rfl⟩ := this
    exact List.mem_map.2 ⟨q, hq, rfl⟩
  · rintro ⟨hg, hr, hc⟩
    have h7 := ((validL_iff _).1 (hg.2.2 0 hg.1).1).2.1
    refine ⟨hg, hr, ?_, fun i hi k hk => ?_⟩
    · rw [← pks_mem hg (length_idL _), pk7_id h7]; exact hc _ .one
    · obtain ⟨v1, v2⟩ := hg.2.2 i hi
      obtain ⟨u1, u2⟩ := hg.2.2 k hk
      have m1 : ps.getD i [] ∈ ps := by simp [hi]
      have m2 : ps.getD k [] ∈ ps := by simp [hk]
      rw [← pks_mem hg ((length_mulL _ _).trans v2), pk7_mul v1 u1 (v2.trans u2.symm)]
      exact hc _ ((Gen.of_mem hg.els (List.mem_map.2 ⟨_, m1, rfl⟩)).mul hg.els (Gen.of_mem hg.els (List.mem_map.2 ⟨_, m2, rfl⟩)))

set_option maxRecDepth 100000 in
set_option maxHeartbeats 4000000 in
theorem refIs_any (v : Value) (ps : List (List Int)) (w : World) (h : Sps w v ps) (hx : ∀ i, i < ps.length → (ps.getD i []).length ≤ 1000000) :
    Calls Try.prog 19 #[v] w fun e w' => ∃ r, e = .returned (.bool r) ∧ Says r (IsGrp ps) ∧ Below w.heap.size w w' := by
  have HS := Lib.hid h
  have HX := Lib.hid hx
  obtain ⟨a, cap, rfl, h⟩ := h
  obtain ⟨m, hm⟩ : ∃ m, m = ps.length := ⟨_, rfl⟩
  have HM := Lib.hid hm
  rw [← hm] at HS ⊢
  clear hm hx
  have HQ := Lib.hid (grp_iff ps)
  go_enter Try.func19, Try.ntmps19
  go_wp2_with fail
  refine (refGens_any _ ps _ HS.out HX.out).mono ?_
  rintro e w1 ⟨r, rfl, hs, hb1⟩
  have HSy := Lib.hid hs
  have HB1 := Lib.hid hb1
  clear hs hb1
  cases r with
  | false =>
    have HF := Lib.hid (show Says false (IsGrp ps) from Says.no fun hp => by have := HSy.out.2 hp.1; cases this)
    clear HSy
    go_wp2_with fail
    go_ret
    exact ⟨false, rfl, HF.out, HB1.out⟩
  | true =>
    have HG := Lib.hid (HSy.out.1 rfl)
    clear HSy
    have hm1 : 1 ≤ m := by rw [HM.out]; exact HG.out.1
    have hm2 : m ≤ 5040 := by rw [HM.out]; exact HG.out.2.1
    rcases h with h | ⟨b, off, rfl, h⟩
    · have := HM.out; rw [h] at this; simp at this; omega
    have HC := Lib.hid h
    obtain ⟨x0, g0, _⟩ := h 0 (by rw [← HM.out]; omega)
    have hbw : b < w.heap.size := World.block_lt_of_cell? w _ g0
    clear h g0
    go_wp2_with fail
    go_loopw [3] (fun i wr => ∃ k : Nat, i = .int .i64 ((k + 1 : Nat) : Int) ∧ k + 1 ≤ m ∧ Hid (riseTo ps (k + 1)) ∧ Hid (Below w.heap.size w wr)) (fun i _ => m - (intOf i).toNat)
    case atStart => exact ⟨0, rfl, by omega, Lib.hid (fun i hi => by omega), HB1⟩
    case round =>
      clear HB1
      obtain ⟨k, rfl, hk, HR, HB⟩ := hrel
      by_cases hlt : k + 1 < m
      · obtain ⟨x, y0, s0⟩ := HC.out k (by rw [← HM.out]; omega)
        obtain ⟨y, y1, s1⟩ := HC.out (k + 1) (by rw [← HM.out]; omega)
        have q0 : wr.cell? ⟨b, off + k, none⟩ = some x := (HB.out.cell (p := ⟨b, off + k, none⟩) hbw).trans y0
        have q1 : wr.cell? ⟨b, off + (k + 1), none⟩ = some y := (HB.out.cell (p := ⟨b, off + (k + 1), none⟩) hbw).trans y1
        have t0 := s0.below HB.out
        have t1 := s1.below HB.out
        have l0 := HX.out k (by rw [← HM.out]; omega)
        have hll : (ps.getD k []).length = (ps.getD (k + 1) []).length := (HG.out.2.2 k (by rw [← HM.out]; omega)).2.trans (HG.out.2.2 (k + 1) (by rw [← HM.out]; omega)).2.symm
        obtain ⟨z, hz⟩ : ∃ z, z = lessL (ps.getD k []) (ps.getD (k + 1) []) := ⟨_, rfl⟩
        have HCall := Lib.hid (show ∀ j, Calls Try.prog 56 #[x, y] (wr.drewN j) fun e w'' => e = .returned (.bool z) ∧ ∃ i, w'' = (wr.drewN j).drewN i from fun j => by
          rw [hz]
          exact less_any _ _ _ _ _ (t0.below (below_drewN' (Below.refl _ _) j)) (t1.below (below_drewN' (Below.refl _ _) j)) l0)
        have HZ := Lib.hid hz
        have HLl := Lib.hid hll
        obtain ⟨xa, xc, rfl, _⟩ := t0
        obtain ⟨ya, yc, rfl, _⟩ := t1
        obtain ⟨lx, hlx⟩ : ∃ lx, lx = (ps.getD k []).length := ⟨_, rfl⟩
        obtain ⟨ly, hly⟩ : ∃ ly, ly = (ps.getD (k + 1) []).length := ⟨_, rfl⟩
        rw [← hlx, ← hly] at HCall
        rw [← hlx] at q0
        rw [← hly] at q1
        clear y0 y1 s0 s1 l0 hz hll hlx hly
        cases z with
        | true =>
          have HR2 := Lib.hid (HR.out.succ (less_cmp _ _ HLl.out HZ.out.symm))
          go_wp2_with fail
          go_quiet ((go_at_call 56; exact Calls.quiet_of (HCall.out _)))
          go_wp2_with fail
          go_roundw
          case rel => exact ⟨k + 1, by go_num, by omega, HR2, Lib.hid (below_drewN' HB.out nq)⟩
          case measure => simp [intOf]; omega
        | false =>
          have HF := Lib.hid (show Says false (IsGrp ps) from Says.no fun hp => by
            have := cmp_less _ _ HLl.out (hp.2.1 k (by rw [← HM.out]; omega))
            rw [← HZ.out] at this; cases this)
          go_wp2_with fail
          go_quiet ((go_at_call 56; exact Calls.quiet_of (HCall.out _)))
          go_wp2_with fail
          go_ret
          exact ⟨false, rfl, HF.out, below_drewN' HB.out nq⟩
      · have hke : k + 1 = m := by omega
        have HRise := Lib.hid (show riseTo ps ps.length from by rw [← HM.out, ← hke]; exact HR.out)
        clear HR hke
        obtain ⟨n, hn⟩ : ∃ n, n = (ps.getD 0 []).length := ⟨_, rfl⟩
        have hv0 := (validL_iff _).1 (HG.out.2.2 0 HG.out.1).1
        rw [← hn] at hv0
        have h1 := hv0.1
        have h7 := hv0.2.1
        obtain ⟨y, y0, s0⟩ := HC.out 0 (by rw [← HM.out]; omega)
        rw [Nat.add_zero] at y0
        have q0 : wr.cell? ⟨b, off, none⟩ = some y := (HB.out.cell (p := ⟨b, off, none⟩) hbw).trans y0
        obtain ⟨ya, yc, rfl, _⟩ := s0
        rw [← hn] at q0
        have HN := Lib.hid hn
        have HV := Lib.hid (show ∀ p ∈ ps, validL p = true ∧ p.length = n from fun p hp => by rw [hn]; exact HG.out.mem hp)
        obtain ⟨F, hF⟩ : ∃ F, F = fact n := ⟨_, rfl⟩
        obtain ⟨f1, f2⟩ := fact_le n h7
        rw [← hF] at f1 f2
        have HF := Lib.hid hF
        have HSr := Lib.hid (HS.out.below HB.out)
        clear hv0 y0 hn hF
        go_wp2_with fail
        refine (SetOf_any n _ ps _ h1 h7 HSr.out HV.out (by rw [← HM.out]; omega)).mono ?_
        rintro e w2 ⟨g, rfl, hlo, hmk, hb2⟩
        unfold setV
        rw [← HF.out] at hmk ⊢
        have hgl := hmk.lt
        have hz := (unrL_rank (idL_valid h1 h7)).2
        have hi0 := rks_mem HV.out (idL_valid h1 h7) (length_idL n)
        rw [rank_id n h7] at hi0
        have k2 : w2.cell? ⟨g, 0, none⟩ = some (.bool (decide (((0 : Nat) : Int) ∈ rks ps))) := by rw [hmk.cell 0, mkm_get _ _ _ f1]
        have HB2 := Lib.hid (HB.out.trans (hb2.mono HB.out.size))
        have hz2 := HB2.out.size
        have M1 := Lib.hid hmk
        clear hmk hb2 HSr hlo q0 hz
        by_cases hid : idL n ∈ ps
        · rw [decide_eq_true (hi0.2 hid)] at k2
          have HId := Lib.hid hid
          clear hid hi0
          go_wp2_with fail
          have C3 := Lib.hid (Blk.new w2 63 #[.int .i64 n, .slice (some ⟨g, 0, none⟩) F F])
          have M3 := Lib.hid (M1.out.alloc (.cells #[.int .i64 n, .slice (some ⟨g, 0, none⟩) F F] 63))
          have B3 := Lib.hid (HB2.out.alloc hz2 (.cells #[.int .i64 n, .slice (some ⟨g, 0, none⟩) F F] 63))
          obtain ⟨c, hc⟩ : ∃ c, c = w2.heap.size := ⟨_, rfl⟩
          rw [← hc] at C3 ⊢
          clear M1 HB2 hc k2 hgl hz2
          generalize w2.alloc (.cells #[.int .i64 n, .slice (some ⟨g, 0, none⟩) F F] 63) = w3 at *
          go_loopw [5] (fun iv wr => ∃ i : Nat, iv = .int .i64 i ∧ i ≤ m ∧ Hid (Below w3.heap.size w3 wr) ∧ Hid (∀ a, a < i → ∀ k, k < m → mulL (ps.getD a []) (ps.getD k []) ∈ ps)) (fun iv _ => m - (intOf iv).toNat)
          case atStart => exact ⟨0, rfl, Nat.zero_le _, Lib.hid (Below.refl _ _), Lib.hid (fun a ha => by omega)⟩
          case round =>
            obtain ⟨i, rfl, hi, HB4, HD⟩ := hrel
            by_cases hli : i < m
            · obtain ⟨wo, rfl⟩ : ∃ wo, wo = wr := ⟨wr, rfl⟩
              go_wp2_with fail
              go_loopw [6] (fun kv wr => ∃ k : Nat, kv = .int .i64 k ∧ k ≤ m ∧ Hid (Below w3.heap.size w3 wr) ∧ Hid (∀ j, j < k → mulL (ps.getD i []) (ps.getD j []) ∈ ps)) (fun kv _ => m - (intOf kv).toNat)
              case atStart => exact ⟨0, rfl, Nat.zero_le _, HB4, Lib.hid (fun a ha => by omega)⟩
              case round =>
                clear HB4
                obtain ⟨k, rfl, hk, HB4, HE⟩ := hrel
                by_cases hlk : k < m
                · obtain ⟨x, x0, sx⟩ := HC.out i (by rw [← HM.out]; omega)
                  obtain ⟨y, y0, sy⟩ := HC.out k (by rw [← HM.out]; omega)
                  obtain ⟨pv, pl⟩ := HG.out.2.2 i (by rw [← HM.out]; omega)
                  obtain ⟨qv, ql⟩ := HG.out.2.2 k (by rw [← HM.out]; omega)
                  rw [← HN.out] at pl ql
                  obtain ⟨p, hp⟩ : ∃ p, p = ps.getD i [] := ⟨_, rfl⟩
                  obtain ⟨q, hq⟩ : ∃ q, q = ps.getD k [] := ⟨_, rfl⟩
                  rw [← hp] at sx pv pl
                  rw [← hq] at sy qv ql
                  have cx : ∀ w', Below w3.heap.size w3 w' → w'.cell? ⟨b, off + i, none⟩ = some x := fun w' h => ((B3.out.trans (h.mono B3.out.size)).cell (p := ⟨b, off + i, none⟩) hbw).trans x0
                  have cy : ∀ w', Below w3.heap.size w3 w' → w'.cell? ⟨b, off + k, none⟩ = some y := fun w' h => ((B3.out.trans (h.mono B3.out.size)).cell (p := ⟨b, off + k, none⟩) hbw).trans y0
                  have fx := sx.below B3.out
                  have fy := sy.below B3.out
                  obtain ⟨xa, xc, e1, _⟩ := sx
                  obtain ⟨ya, yc, e2, _⟩ := sy
                  rw [pl] at e1
                  rw [ql] at e2
                  subst e1 e2
                  have av := mulL_valid pv qv (pl.trans ql.symm)
                  have al := (length_mulL p q).trans pl
                  have hR := (unrL_rank av).2
                  rw [al, ← HF.out] at hR
                  have hin := rks_mem HV.out av al
                  obtain ⟨R, hR0⟩ : ∃ R, R = rankL (mulL p q) := ⟨_, rfl⟩
                  rw [← hR0] at hR hin
                  obtain ⟨z, hz⟩ : ∃ z, z = decide ((R : Int) ∈ rks ps) := ⟨_, rfl⟩
                  have cr : ∀ w', Below w3.heap.size w3 w' → w'.cell? ⟨g, R, none⟩ = some (.bool z) := fun w' h => by rw [hz, (M3.out.below h).cell R, mkm_get _ _ _ hR]
                  have HZ := Lib.hid hz
                  have cs : ∀ w', Below w3.heap.size w3 w' → w'.cell? ⟨c, 1, none⟩ = some (.slice (some ⟨g, 0, none⟩) F F) := fun w' h => by rw [(C3.out.below h).cell 1]; rfl
                  have FX := Lib.hid fx
                  have FY := Lib.hid fy
                  have CX := Lib.hid cx
                  have CY := Lib.hid cy
                  have CR := Lib.hid cr
                  have CS := Lib.hid cs
                  have PV := Lib.hid pv
                  have QV := Lib.hid qv
                  have PL := Lib.hid pl
                  have QL := Lib.hid ql
                  have HP := Lib.hid hp
                  have HQ2 := Lib.hid hq
                  have HIn := Lib.hid hin
                  have AL := Lib.hid al
                  have HR0 := Lib.hid hR0
                  clear fx fy cx cy cr cs pv qv pl ql hp hq hin al av hR0 x0 y0 hz
                  go_wp2_with fail
                  refine wp_region_held_all (S := fun w' => Below w3.heap.size w3 w') (by kernel_rfl) ?_
                  have hS : Below w3.heap.size w3 wr.drew := below_drewN' HB4.out 1
                  refine held_take (i := 0) (v := .pointer (some ⟨c, 1, none⟩)) rfl rfl (by kernel_rfl) (by kernel_rfl) (by kernel_rfl) (fun w' h => by go_simp) hS ?_
                  refine held_take (i := 1) (v := .slice (some ⟨g, 0, none⟩) F F) rfl rfl (by kernel_rfl) (by kernel_rfl) (by kernel_rfl) (fun w' h => by have h1 := CS.out w' h; go_simp) hS ?_
                  refine held_take (i := 2) (v := .slice (some ⟨b, off, none⟩) m cap) rfl rfl (by kernel_rfl) (by kernel_rfl) (by kernel_rfl) (fun w' h => by go_simp) hS ?_
                  refine held_take (i := 3) (v := .int .i64 i) rfl rfl (by kernel_rfl) (by kernel_rfl) (by kernel_rfl) (fun w' h => by go_simp) hS ?_
                  refine held_take (i := 4) (v := .pointer (some ⟨b, off + i, none⟩)) rfl rfl (by kernel_rfl) (by kernel_rfl) (by kernel_rfl) (fun w' h => by go_simp) hS ?_
                  simp [Act.put]
                  refine held_take (i := 5) (v := .slice xa n xc) rfl rfl (by kernel_rfl) (by kernel_rfl) (by kernel_rfl) (fun w' h => by have h1 := CX.out w' h; go_simp) hS ?_
                  refine held_take (i := 6) (v := .slice (some ⟨b, off, none⟩) m cap) rfl rfl (by kernel_rfl) (by kernel_rfl) (by kernel_rfl) (fun w' h => by go_simp) hS ?_
                  refine held_take (i := 7) (v := .int .i64 k) rfl rfl (by kernel_rfl) (by kernel_rfl) (by kernel_rfl) (fun w' h => by go_simp) hS ?_
                  refine held_take (i := 8) (v := .pointer (some ⟨b, off + k, none⟩)) rfl rfl (by kernel_rfl) (by kernel_rfl) (by kernel_rfl) (fun w' h => by go_simp) hS ?_
                  refine held_take (i := 9) (v := .slice ya n yc) rfl rfl (by kernel_rfl) (by kernel_rfl) (by kernel_rfl) (fun w' h => by have h1 := CY.out w' h; go_simp) hS ?_
                  simp [Act.put]
                  refine held_only (i := 10) rfl rfl (by kernel_rfl) (wp_call_any 40 Try.func40 (by kernel_rfl) rfl _ _ rfl #[.slice xa n xc, .slice ya n yc] rfl ((refmul_any _ _ p q wr.drew (FX.out.below hS) (FY.out.below hS) (by have := PL.out; omega) (by have := QL.out; omega) (by rw [QL.out, ← PL.out]; exact inR_of_valid PV.out)).mono ?_))
                  rintro e w5 ⟨v, rfl, hv, hb5⟩
                  have hS5 : Below w3.heap.size w3 w5 := hS.trans (hb5.mono hS.size)
                  refine ⟨_, rfl, hS5, ?_⟩
                  have HVv := Lib.hid hv.sl
                  obtain ⟨va, vc, e1, _⟩ := hv.sl
                  rw [AL.out] at e1
                  subst e1
                  clear hv hb5
                  simp [Act.put]
                  refine held_only (i := 11) rfl rfl (by kernel_rfl) (wp_call_any 54 Try.func54 (by kernel_rfl) rfl _ _ rfl #[.slice va n vc] rfl ((refrank_any _ (mulL p q) w5 HVv.out (by have := AL.out; omega)).mono ?_))
                  rintro e w6 ⟨rfl, j, rfl⟩
                  have hS6 : Below w3.heap.size w3 (w5.drewN j) := below_drewN' hS5 j
                  refine ⟨_, rfl, hS6, ?_⟩
                  rw [← HR0.out]
                  generalize w5.drewN j = w6 at *
                  simp [Act.put]
                  refine held_take (i := 12) (v := .pointer (some ⟨g, R, none⟩)) rfl rfl (by kernel_rfl) (by kernel_rfl) (by kernel_rfl) (fun w' h => by go_simp) hS6 ?_
                  refine held_take (i := 13) (v := .bool z) rfl rfl (by kernel_rfl) (by kernel_rfl) (by kernel_rfl) (fun w' h => by have h1 := CR.out w' h; go_simp) hS6 ?_
                  refine held_take (i := 14) (v := .bool (!z)) rfl rfl (by kernel_rfl) (by kernel_rfl) (by kernel_rfl) (fun w' h => by go_simp) hS6 ?_
                  refine held_done (by kernel_rfl) ?_
                  have HS6 := Lib.hid hS6
                  clear hS hS5 hS6
                  simp [Act.put]
                  cases z with
                  | true =>
                    have HE2 := Lib.hid (show ∀ j, j < k + 1 → mulL (ps.getD i []) (ps.getD j []) ∈ ps from fun j hj => by
                      by_cases e : j = k
                      · subst e; rw [← HP.out, ← HQ2.out]; exact HIn.out.1 (of_decide_eq_true HZ.out.symm)
                      · exact HE.out j (by omega))
                    go_wp2_with fail
                    go_roundw
                    case rel => exact ⟨k + 1, by go_num, by omega, HS6, HE2⟩
                    case measure => simp [intOf]; omega
                  | false =>
                    have HNo := Lib.hid (show Says false (IsGrp ps) from Says.no fun hp => by
                      have h2 := (HQ.out.2 hp).2.2.2 i (by rw [← HM.out]; omega) k (by rw [← HM.out]; omega)
                      rw [← HP.out, ← HQ2.out] at h2
                      exact of_decide_eq_false HZ.out.symm (HIn.out.2 h2))
                    go_wp2_with fail
                    go_ret
                    exact ⟨false, rfl, HNo.out, B3.out.trans (HS6.out.mono B3.out.size)⟩
                · have HD2 := Lib.hid (show ∀ a, a < i + 1 → ∀ k, k < m → mulL (ps.getD a []) (ps.getD k []) ∈ ps from fun a ha j hj => by
                    by_cases e : a = i
                    · subst e; exact HE.out j (by omega)
                    · exact HD.out a (by omega) j hj)
                  go_wp2_with fail
                  go_roundw
                  case rel => exact ⟨i + 1, by go_num, by omega, HB4, HD2⟩
                  case measure => simp [intOf]; omega
            · have HY := Lib.hid (show Says true (IsGrp ps) from Says.yes (HQ.out.1 ⟨HG.out, HRise.out, by rw [← HN.out]; exact HId.out, fun a ha k hk => HD.out a (by rw [← HM.out] at ha; omega) k (by rw [← HM.out] at hk; exact hk)⟩))
              go_wp2_with fail
              go_ret
              exact ⟨true, rfl, HY.out, B3.out.trans (HB4.out.mono B3.out.size)⟩
        · rw [decide_eq_false (fun h => hid (hi0.1 h))] at k2
          have HNo := Lib.hid (show Says false (IsGrp ps) from Says.no fun hp => hid (by have := (HQ.out.2 hp).2.2.1; rwa [← HN.out] at this))
          have B3 := Lib.hid (HB2.out.alloc hz2 (.cells #[.int .i64 n, .slice (some ⟨g, 0, none⟩) F F] 63))
          clear hid hi0 hz2
          go_wp2_with fail
          go_ret
          exact ⟨false, rfl, HNo.out, B3.out⟩
end Go.Proofs.Ytjnjhfificpbbaa
namespace Go.Proofs.Ytjnjhfificpbbaa
open Go Go.RowKit

/-- q lists the permutations of n points whose elements are in P, in their order -/
def Lists (n : Nat) (q : List (List Int)) (P : List Int → Prop) : Prop := ∃ s, q = rl n s ∧ ∀ p, validL p = true → p.length = n → ((rankL p : Int) ∈ s ↔ P (pk7 p))
theorem Lists.mem {n : Nat} {q : List (List Int)} {P : List Int → Prop} (h : Lists n q P) (h1 : 1 ≤ n) (h7 : n ≤ 7) (p : List Int) : p ∈ q ↔ validL p = true ∧ p.length = n ∧ P (pk7 p) := by
  obtain ⟨s, rfl, hs⟩ := h
  rw [rl_mem h1 h7]
  constructor
  · rintro ⟨a, b, c⟩; exact ⟨a, b, (hs p a b).1 c⟩
  · rintro ⟨a, b, c⟩; exact ⟨a, b, (hs p a b).2 c⟩
theorem Lists.len {n : Nat} {q : List (List Int)} {P : List Int → Prop} (h : Lists n q P) : q.length ≤ fact n := by
  obtain ⟨s, rfl, _⟩ := h; exact rl_count s
theorem Lists.get {n : Nat} {q : List (List Int)} {P : List Int → Prop} (h : Lists n q P) {i : Nat} (hi : i < q.length) : (q.getD i []).length = n := by
  obtain ⟨s, rfl, _⟩ := h
  exact rl_len s _ (by rw [List.getD_eq_getElem?_getD, List.getElem?_eq_getElem hi]; exact List.getElem_mem hi)
theorem Lists.congr {n : Nat} {q : List (List Int)} {P P' : List Int → Prop} (h : Lists n q P) (he : ∀ a, P a ↔ P' a) : Lists n q P' := by
  obtain ⟨s, e, hs⟩ := h
  exact ⟨s, e, fun p a b => (hs p a b).trans (he _)⟩
theorem Lists.uniq {n : Nat} {q q' : List (List Int)} {P P' : List Int → Prop} (h : Lists n q P) (h' : Lists n q' P') (he : ∀ a, P a ↔ P' a) (h1 : 1 ≤ n) (h7 : n ≤ 7) : q = q' := by
  obtain ⟨s, rfl, hs⟩ := h
  obtain ⟨s', rfl, hs'⟩ := h'
  unfold rl
  congr 1
  apply List.filter_congr
  intro r hr
  have hr' := List.mem_range.1 hr
  have e := hs (unrL n r) (unrL_valid h1 h7 hr') (len_unrL n r)
  have e' := hs' (unrL n r) (unrL_valid h1 h7 hr') (len_unrL n r)
  rw [rank_unrL hr'] at e e'
  exact decide_eq_decide.2 (e.trans ((he _).trans e'.symm))
/-- what perms hands back -/
theorem perms_lists {n : Nat} {L L' : List (List Int)} (h1 : 1 ≤ n) (h7 : n ≤ 7) (hp : L'.Perm L) (ha : Asc L') (hn : L.Nodup) (hpk : ∀ a ∈ L, ∃ p, validL p = true ∧ p.length = n ∧ a = pk7 p) {q : List (List Int)} {P : List Int → Prop} (h : Lists n q P) (hP : ∀ p, validL p = true → p.length = n → (P (pk7 p) ↔ pk7 p ∈ L)) : L'.map (List.take n) = q := by
  obtain ⟨s, rfl, hs⟩ := h
  exact perms_rl h1 h7 hp ha hn hpk fun p hv hl => (hs p hv hl).trans (hP p hv hl)
/-- a closed set, listed, is a group -/
theorem Lists.grp {n : Nat} {q : List (List Int)} {gs : List (List Int)} (h : Lists n q (Gen gs)) (h1 : 1 ≤ n) (h7 : n ≤ 7) (hg : Els gs) (hpk : ∀ a, Gen gs a → ∃ p, validL p = true ∧ p.length = n ∧ a = pk7 p) : IsGrp q ∧ (q.getD 0 []).length = n ∧ ∀ a, a ∈ pks q ↔ Gen gs a := by
  have hm := h.mem h1 h7
  have hid : idL n ∈ q := (hm _).2 ⟨idL_valid h1 h7, length_idL n, by rw [pk7_id h7]; exact .one⟩
  have hpos : 0 < q.length := List.length_pos_of_mem hid
  have h0 : (q.getD 0 []).length = n := h.get hpos
  have hmem : ∀ a, a ∈ pks q ↔ Gen gs a := fun a => by
    unfold pks
    rw [List.mem_map]
    constructor
    · rintro ⟨p, hp, rfl⟩; exact ((hm p).1 hp).2.2
    · intro ha
      obtain ⟨p, v, l, rfl⟩ := hpk a ha
      exact ⟨p, (hm p).2 ⟨v, l, ha⟩, rfl⟩
  refine ⟨⟨⟨hpos, Nat.le_trans h.len (fact_le n h7).2, fun i hi => ?_⟩, fun i hi => ?_, fun a ha => ?_⟩, h0, hmem⟩
  · have := (hm (q.getD i [])).1 (by simp [hi])
    rw [h0]; exact ⟨this.1, this.2.1⟩
  · obtain ⟨s, rfl, _⟩ := h
    have := List.pairwise_iff_getElem.1 (rl_rise (n := n) s) i (i + 1) (by omega) hi (by omega)
    have e1 : (rl n s).getD i [] = (rl n s)[i]'(by omega) := by simp [show i < (rl n s).length by omega]
    have e2 : (rl n s).getD (i + 1) [] = (rl n s)[i + 1] := by simp [hi]
    rw [e1, e2]; exact this
  · rw [hmem]
    exact Gen.sub hg (fun g hg' => (hmem g).1 hg') ha

/-! ### commutators of permutations and of their elements -/
theorem pk7_inv {p : List Int} (hp : validL p = true) : pk7 (invL p) = invL (pk7 p) := by
  have h7 := ((validL_iff _).1 hp).2.1
  refine (pk7_el hp).inv_unique (pk7_el (invL_valid hp)) ?_
  rw [← pk7_mul (invL_valid hp) hp (length_invL p), inv_mulL hp, pk7_id h7]
theorem pk7_comm {p q : List Int} (hp : validL p = true) (hq : validL q = true) (hl : p.length = q.length) : pk7 (commL p q) = commG (pk7 p) (pk7 q) := by
  unfold commL commG conjL
  have e1 := pk7_el hp
  have e2 := pk7_el hq
  rw [pk7_mul (mulL_valid (invL_valid hp) (invL_valid hq) (by rw [length_invL, length_invL]; exact hl)) (mulL_valid hp hq hl) (by rw [length_mulL, length_mulL, length_invL]),
    pk7_mul (invL_valid hp) (invL_valid hq) (by rw [length_invL, length_invL]; exact hl), pk7_mul hp hq hl, pk7_inv hp, pk7_inv hq,
    e1.inv.assoc _ e2.inv, ← e2.inv.assoc _ e1]
theorem commL_valid {p q : List Int} (hp : validL p = true) (hq : validL q = true) (hl : p.length = q.length) : validL (commL p q) = true ∧ (commL p q).length = p.length := by
  unfold commL
  exact ⟨mulL_valid (mulL_valid (invL_valid hp) (invL_valid hq) (by rw [length_invL, length_invL]; exact hl)) (mulL_valid hp hq hl) (by rw [length_mulL, length_mulL, length_invL]), by rw [length_mulL, length_mulL, length_invL]⟩

/-- the commutators looked at so far: i rows whole, k of the next -/
def cmTo (ps : List (List Int)) (i k : Nat) : List (List Int) := ((ps.take i).flatMap fun a => ps.map (commL a)) ++ (ps.take k).map (commL (ps.getD i []))
theorem cmTo_snoc {ps : List (List Int)} {i k : Nat} (hk : k < ps.length) : cmTo ps i (k + 1) = cmTo ps i k ++ [commL (ps.getD i []) (ps.getD k [])] := by
  unfold cmTo
  rw [List.take_succ_eq_append_getElem hk, List.map_append, ← List.append_assoc]
  simp [hk]
theorem cmTo_next {ps : List (List Int)} {i : Nat} (hi : i < ps.length) : cmTo ps i ps.length = cmTo ps (i + 1) 0 := by
  unfold cmTo
  rw [List.take_succ_eq_append_getElem hi, List.flatMap_append]
  simp [hi]
theorem cmTo_mem (ps : List (List Int)) (x : List Int) : x ∈ cmTo ps ps.length 0 ↔ ∃ a b, a ∈ ps ∧ b ∈ ps ∧ x = commL a b := by
  unfold cmTo
  simp only [List.take_length, List.take_zero, List.map_nil, List.append_nil, List.mem_flatMap, List.mem_map]
  constructor
  · rintro ⟨a, ha, b, hb, rfl⟩; exact ⟨a, b, ha, hb, rfl⟩
  · rintro ⟨a, b, ha, hb, rfl⟩; exact ⟨a, ha, b, hb, rfl⟩

set_option maxRecDepth 100000 in
set_option maxHeartbeats 4000000 in
theorem refComms_any (v : Value) (ps : List (List Int)) (w : World) (h : Sps w v ps) (hg : GenP ps) :
    Calls Try.prog 71 #[v] w fun e w' => ∃ x, e = .returned x ∧ Owp w.heap.size w' x (rl (ps.getD 0 []).length (rks (cmTo ps ps.length 0))) ∧ Below w.heap.size w w' := by
  obtain ⟨n, hn⟩ : ∃ n, n = (ps.getD 0 []).length := ⟨_, rfl⟩
  have hv0 := (validL_iff _).1 (hg.2.2 0 hg.1).1
  have h1 : 1 ≤ n := by rw [hn]; exact hv0.1
  have h7 : n ≤ 7 := by rw [hn]; exact hv0.2.1
  rw [← hn]
  have HV := Lib.hid (show ∀ p ∈ ps, validL p = true ∧ p.length = n from fun p hp => by rw [hn]; exact hg.mem hp)
  obtain ⟨a, cap, rfl, h⟩ := h
  obtain ⟨m, hm⟩ : ∃ m, m = ps.length := ⟨_, rfl⟩
  have hm1 : 1 ≤ m := by rw [hm]; exact hg.1
  have hm2 : m ≤ 5040 := by rw [hm]; exact hg.2.1
  rcases h with h | ⟨b, off, rfl, h⟩
  · rw [h] at hm; simp at hm; omega
  obtain ⟨x0, g0, s0⟩ := h 0 (by omega)
  rw [Nat.add_zero] at g0
  have hbw : b < w.heap.size := World.block_lt_of_cell? w _ g0
  obtain ⟨xa, xc, rfl, _⟩ := s0
  have HC := Lib.hid h
  have HM := Lib.hid hm
  have HN := Lib.hid hn
  have HG := Lib.hid hg
  rw [← hn] at g0
  rw [← hm]
  obtain ⟨F, hF⟩ : ∃ F, F = fact n := ⟨_, rfl⟩
  obtain ⟨f1, f2⟩ := fact_le n h7
  rw [← hF] at f1 f2
  have HF := Lib.hid hF
  clear hg hv0 h hm hn hF
  go_enter Try.func71, Try.ntmps71
  go_wp2_with fail
  refine (SetOf_any n (.slice none 0 0) [] _ h1 h7 ⟨none, 0, rfl, .inl rfl⟩ (fun p hp => by simp at hp) (by simp)).mono ?_
  rintro e w1 ⟨g, rfl, hlo, hmk, hb1⟩
  unfold setV
  rw [← HF.out] at hmk ⊢
  have M1 := Lib.hid (show Blk _ g 4 (mkm F (rks (cmTo ps 0 0))) from hmk.alloc (.cells #[.int .i64 n, .slice (some ⟨g, 0, none⟩) F F] 63))
  have C1 := Lib.hid (Blk.new w1 63 #[.int .i64 n, .slice (some ⟨g, 0, none⟩) F F])
  have B1 := Lib.hid (hb1.alloc hb1.size (.cells #[.int .i64 n, .slice (some ⟨g, 0, none⟩) F F] 63))
  have HLo := Lib.hid hlo
  clear hmk hb1 hlo
  go_wp2_with fail
  obtain ⟨c, hc⟩ : ∃ c, c = w1.heap.size := ⟨_, rfl⟩
  rw [← hc] at C1 ⊢
  have hcg := C1.out.ne M1.out (by decide)
  clear hc
  generalize w1.alloc (.cells #[.int .i64 n, .slice (some ⟨g, 0, none⟩) F F] 63) = w2 at *
  go_loopw [4] (fun iv wr => ∃ i : Nat, iv = .int .i64 i ∧ i ≤ m ∧ Hid (Blk wr c 63 #[.int .i64 n, .slice (some ⟨g, 0, none⟩) F F]) ∧ Hid (Blk wr g 4 (mkm F (rks (cmTo ps i 0)))) ∧ Hid (Below w.heap.size w wr)) (fun iv _ => m - (intOf iv).toNat)
  case atStart => exact ⟨0, rfl, Nat.zero_le _, C1, M1, B1⟩
  case round =>
    clear C1 M1 B1
    obtain ⟨i, rfl, hi, C1, M1, B1⟩ := hrel
    by_cases hli : i < m
    · obtain ⟨wo, rfl⟩ : ∃ wo, wo = wr := ⟨wr, rfl⟩
      go_wp2_with fail
      go_loopw [5] (fun kv wr => ∃ k : Nat, kv = .int .i64 k ∧ k ≤ m ∧ Hid (Blk wr c 63 #[.int .i64 n, .slice (some ⟨g, 0, none⟩) F F]) ∧ Hid (Blk wr g 4 (mkm F (rks (cmTo ps i k)))) ∧ Hid (Below w.heap.size w wr)) (fun kv _ => m - (intOf kv).toNat)
      case atStart => exact ⟨0, rfl, Nat.zero_le _, C1, M1, B1⟩
      case round =>
        clear C1 M1 B1
        obtain ⟨k, rfl, hk, C1, M1, B1⟩ := hrel
        by_cases hlk : k < m
        · obtain ⟨x, x0, sx⟩ := HC.out i (by rw [← HM.out]; omega)
          obtain ⟨y, y0, sy⟩ := HC.out k (by rw [← HM.out]; omega)
          obtain ⟨pv, pl⟩ := HG.out.2.2 i (by rw [← HM.out]; omega)
          obtain ⟨qv, ql⟩ := HG.out.2.2 k (by rw [← HM.out]; omega)
          rw [← HN.out] at pl ql
          have hsn := cmTo_snoc (ps := ps) (i := i) (k := k) (by rw [← HM.out]; exact hlk)
          obtain ⟨p, hp⟩ : ∃ p, p = ps.getD i [] := ⟨_, rfl⟩
          obtain ⟨q, hq⟩ : ∃ q, q = ps.getD k [] := ⟨_, rfl⟩
          rw [← hp] at sx pv pl
          rw [← hq] at sy qv ql
          rw [← hp, ← hq] at hsn
          have fx := sx.below B1.out
          have fy := sy.below B1.out
          obtain ⟨xa, xc, e1, _⟩ := sx
          obtain ⟨ya, yc, e2, _⟩ := sy
          rw [pl] at e1
          rw [ql] at e2
          subst e1 e2
          have cx : wr.cell? ⟨b, off + i, none⟩ = some (.slice xa n xc) := (B1.out.cell (p := ⟨b, off + i, none⟩) hbw).trans x0
          have cy : wr.cell? ⟨b, off + k, none⟩ = some (.slice ya n yc) := (B1.out.cell (p := ⟨b, off + k, none⟩) hbw).trans y0
          obtain ⟨av, al⟩ := commL_valid pv qv (pl.trans ql.symm)
          rw [pl] at al
          have hR := (unrL_rank av).2
          rw [al, ← HF.out] at hR
          have he := errP_ok pv qv (pl.trans ql.symm)
          obtain ⟨R, hR0⟩ : ∃ R, R = rankL (commL p q) := ⟨_, rfl⟩
          rw [← hR0] at hR
          have hs2 : rks (cmTo ps i (k + 1)) = rks (cmTo ps i k) ++ [(R : Int)] := by rw [hsn, rks_snoc, hR0]
          have cs : wr.cell? ⟨c, 1, none⟩ = some (.slice (some ⟨g, 0, none⟩) F F) := by rw [C1.out.cell 1]; rfl
          have hbg : b ≠ g := by have := HLo.out; omega
          have FX := Lib.hid fx
          have FY := Lib.hid fy
          have AL := Lib.hid al
          have HR0 := Lib.hid hR0
          have HE := Lib.hid he
          have HS2 := Lib.hid hs2
          clear fx fy pv qv pl ql hp hq al av hR0 x0 y0 hsn he hs2
          go_wp2_with fail
          refine wp_region_held_all (S := fun w' => w'.cell? ⟨c, 1, none⟩ = some (.slice (some ⟨g, 0, none⟩) F F) ∧ w'.cell? ⟨b, off + i, none⟩ = some (.slice xa n xc) ∧ w'.cell? ⟨b, off + k, none⟩ = some (.slice ya n yc)) (by kernel_rfl) ?_
          have hS : wr.drew.cell? ⟨c, 1, none⟩ = some (.slice (some ⟨g, 0, none⟩) F F) ∧ wr.drew.cell? ⟨b, off + i, none⟩ = some (.slice xa n xc) ∧ wr.drew.cell? ⟨b, off + k, none⟩ = some (.slice ya n yc) := ⟨cs, cx, cy⟩
          refine held_take (i := 0) (v := .pointer (some ⟨c, 1, none⟩)) rfl rfl (by kernel_rfl) (by kernel_rfl) (by kernel_rfl) (fun w' h => by go_simp) hS ?_
          refine held_take (i := 1) (v := .slice (some ⟨g, 0, none⟩) F F) rfl rfl (by kernel_rfl) (by kernel_rfl) (by kernel_rfl) (fun w' h => by have h1 := h.1; go_simp) hS ?_
          refine held_take (i := 2) (v := .slice (some ⟨b, off, none⟩) m cap) rfl rfl (by kernel_rfl) (by kernel_rfl) (by kernel_rfl) (fun w' h => by go_simp) hS ?_
          refine held_take (i := 3) (v := .int .i64 i) rfl rfl (by kernel_rfl) (by kernel_rfl) (by kernel_rfl) (fun w' h => by go_simp) hS ?_
          refine held_take (i := 4) (v := .pointer (some ⟨b, off + i, none⟩)) rfl rfl (by kernel_rfl) (by kernel_rfl) (by kernel_rfl) (fun w' h => by go_simp) hS ?_
          simp [Act.put]
          refine held_take (i := 5) (v := .slice xa n xc) rfl rfl (by kernel_rfl) (by kernel_rfl) (by kernel_rfl) (fun w' h => by have h1 := h.2.1; go_simp) hS ?_
          refine held_take (i := 6) (v := .slice (some ⟨b, off, none⟩) m cap) rfl rfl (by kernel_rfl) (by kernel_rfl) (by kernel_rfl) (fun w' h => by go_simp) hS ?_
          refine held_take (i := 7) (v := .int .i64 k) rfl rfl (by kernel_rfl) (by kernel_rfl) (by kernel_rfl) (fun w' h => by go_simp) hS ?_
          refine held_take (i := 8) (v := .pointer (some ⟨b, off + k, none⟩)) rfl rfl (by kernel_rfl) (by kernel_rfl) (by kernel_rfl) (fun w' h => by go_simp) hS ?_
          refine held_take (i := 9) (v := .slice ya n yc) rfl rfl (by kernel_rfl) (by kernel_rfl) (by kernel_rfl) (fun w' h => by have h1 := h.2.2; go_simp) hS ?_
          simp [Act.put]
          have hb0 : Below wr.heap.size wr wr.drew := below_drewN' (Below.refl _ _) 1
          refine held_only (i := 10) rfl rfl (by kernel_rfl) (wp_call_any 41 Try.func41 (by kernel_rfl) rfl _ _ rfl #[.slice xa n xc, .slice ya n yc] rfl ((refcomm_any _ _ p q wr.drew (FX.out.below hb0) (FY.out.below hb0) HE.out).mono ?_))
          rintro e w5 ⟨v, rfl, hv, hb5⟩
          have hb5 := hb0.trans (hb5.mono hb0.size)
          have hbr : b < wr.heap.size := World.block_lt_of_cell? wr _ cx
          have hcr : c < wr.heap.size := C1.out.lt
          refine ⟨_, rfl, ⟨(hb5.cell (p := ⟨c, 1, none⟩) hcr).trans cs, (hb5.cell (p := ⟨b, off + i, none⟩) hbr).trans cx, (hb5.cell (p := ⟨b, off + k, none⟩) hbr).trans cy⟩, ?_⟩
          have HVv := Lib.hid hv.sl
          obtain ⟨va, vc, e1, _⟩ := hv.sl
          rw [AL.out] at e1
          subst e1
          clear hv
          simp [Act.put]
          refine held_only (i := 11) rfl rfl (by kernel_rfl) (wp_call_any 54 Try.func54 (by kernel_rfl) rfl _ _ rfl #[.slice va n vc] rfl ((refrank_any _ (commL p q) w5 HVv.out (by have := AL.out; omega)).mono ?_))
          rintro e w6 ⟨rfl, j, rfl⟩
          have hb6 : Below wr.heap.size wr (w5.drewN j) := below_drewN' hb5 j
          rw [← HR0.out]
          generalize w5.drewN j = w6 at *
          have hS6 : w6.cell? ⟨c, 1, none⟩ = some (.slice (some ⟨g, 0, none⟩) F F) ∧ w6.cell? ⟨b, off + i, none⟩ = some (.slice xa n xc) ∧ w6.cell? ⟨b, off + k, none⟩ = some (.slice ya n yc) := ⟨(hb6.cell (p := ⟨c, 1, none⟩) hcr).trans cs, (hb6.cell (p := ⟨b, off + i, none⟩) hbr).trans cx, (hb6.cell (p := ⟨b, off + k, none⟩) hbr).trans cy⟩
          refine ⟨_, rfl, hS6, ?_⟩
          simp [Act.put]
          refine held_take (i := 12) (v := .pointer (some ⟨g, R, none⟩)) rfl rfl (by kernel_rfl) (by kernel_rfl) (by kernel_rfl) (fun w' h => by go_simp) hS6 ?_
          have hM6 := M1.out.below hb6
          have hC6 := C1.out.below hb6
          have hB6 := B1.out.trans (hb6.mono B1.out.size)
          have k6 : w6.cell? ⟨g, R, none⟩ = some (.bool (decide ((R : Int) ∈ rks (cmTo ps i k)))) := by rw [hM6.cell R, mkm_get _ _ _ hR]
          have k7 := hM6.free R
          simp [Act.put]
          refine held_only (i := 13) rfl rfl (by kernel_rfl) ?_
          go_simp
          have T1 := Lib.hid (show Blk (w6.setCell ⟨g, R, none⟩ (.bool true)) g 4 (mkm F (rks (cmTo ps i (k + 1)))) from by
            have := hM6.set R (.bool true)
            rwa [mkm_set, ← HS2.out] at this)
          have T2 := Lib.hid (hC6.other g R (.bool true) hcg)
          have TB := Lib.hid (show Below w.heap.size w (w6.setCell ⟨g, R, none⟩ (.bool true)) from hB6.setCell HLo.out _)
          clear hM6 hC6 hB6 k6 k7 hS6 hS hb0 hb5 hb6 cs cx cy hbr hcr
          refine held_done (by kernel_rfl) ?_
          go_wp2_with fail
          go_roundw
          case rel => exact ⟨k + 1, by go_num, by omega, T2, T1, TB⟩
          case measure => simp [intOf]; omega
        · have T1 := Lib.hid (show Blk wr g 4 (mkm F (rks (cmTo ps (i + 1) 0))) from by
            have := M1.out
            rwa [show k = ps.length by rw [← HM.out]; omega, cmTo_next (by rw [← HM.out]; exact hli)] at this)
          go_wp2_with fail
          go_roundw
          case rel => exact ⟨i + 1, by go_num, by omega, C1, T1, B1⟩
          case measure => simp [intOf]; omega
    · have hke : i = m := by omega
      have T1 := M1.out
      rw [hke, HF.out] at T1
      have HCall := Lib.hid (show Calls Try.prog 55 #[.agg #[.int .i64 n, .slice (some ⟨g, 0, none⟩) F F]] wr fun e w' => ∃ x, e = .returned x ∧ Owp wr.heap.size w' x (rl n (rks (cmTo ps m 0))) ∧ Below wr.heap.size wr w' from by
        have := List_any n g (rks (cmTo ps m 0)) wr h1 h7 T1
        unfold setV at this
        rwa [← HF.out] at this)
      have k1 : wr.cell? ⟨c, 0, none⟩ = some (.int .i64 n) := by rw [C1.out.cell 0]; rfl
      have k2 : wr.cell? ⟨c, 1, none⟩ = some (.slice (some ⟨g, 0, none⟩) F F) := by rw [C1.out.cell 1]; rfl
      clear hke T1
      go_wp2_with fail
      refine HCall.out.mono ?_
      rintro e w4 ⟨x, rfl, ho, hb4⟩
      have HO := Lib.hid (ho.mono B1.out.size)
      have HB := Lib.hid (B1.out.trans (hb4.mono B1.out.size))
      clear ho hb4
      go_wp2_with fail
      go_ret
      exact ⟨x, rfl, HO.out, HB.out⟩

/-- what the reference's Derived of a group is -/
theorem comms_lists {ps : List (List Int)} (hg : GenP ps) : Lists (ps.getD 0 []).length (rl (ps.getD 0 []).length (rks (cmTo ps ps.length 0))) (fun a => a ∈ comms (pks ps)) := by
  refine ⟨_, rfl, fun p hv hl => ?_⟩
  have hS : ∀ x ∈ cmTo ps ps.length 0, validL x = true ∧ x.length = (ps.getD 0 []).length := fun x hx => by
    obtain ⟨a, b, ha, hb, rfl⟩ := (cmTo_mem ps x).1 hx
    obtain ⟨v1, l1⟩ := hg.mem ha
    obtain ⟨v2, l2⟩ := hg.mem hb
    obtain ⟨u, l⟩ := commL_valid v1 v2 (l1.trans l2.symm)
    exact ⟨u, l.trans l1⟩
  show _ ↔ pk7 p ∈ comms (pks ps)
  rw [rks_mem hS hv hl, cmTo_mem, mem_comms]
  constructor
  · rintro ⟨a, b, ha, hb, rfl⟩
    obtain ⟨v1, l1⟩ := hg.mem ha
    obtain ⟨v2, l2⟩ := hg.mem hb
    exact ⟨_, _, List.mem_map.2 ⟨a, ha, rfl⟩, List.mem_map.2 ⟨b, hb, rfl⟩, pk7_comm v1 v2 (l1.trans l2.symm)⟩
  · rintro ⟨a, b, ha, hb, e⟩
    obtain ⟨a', ha', rfl⟩ := List.mem_map.1 ha
    obtain ⟨b', hb', rfl⟩ := List.mem_map.1 hb
    obtain ⟨v1, l1⟩ := hg.mem ha'
    obtain ⟨v2, l2⟩ := hg.mem hb'
    refine ⟨a', b', ha', hb', ?_⟩
    rw [← pk7_comm v1 v2 (l1.trans l2.symm)] at e
    exact pk7_same (hl.trans ((commL_valid v1 v2 (l1.trans l2.symm)).2.trans l1).symm) e
theorem comms_pk {ps : List (List Int)} (hg : GenP ps) {a : List Int} (h : a ∈ comms (pks ps)) : ∃ p, validL p = true ∧ p.length = (ps.getD 0 []).length ∧ a = pk7 p := by
  obtain ⟨x, y, hx, hy, rfl⟩ := mem_comms.1 h
  obtain ⟨p, hp, rfl⟩ := List.mem_map.1 hx
  obtain ⟨q, hq, rfl⟩ := List.mem_map.1 hy
  obtain ⟨v1, l1⟩ := hg.mem hp
  obtain ⟨v2, l2⟩ := hg.mem hq
  obtain ⟨u, l⟩ := commL_valid v1 v2 (l1.trans l2.symm)
  exact ⟨_, u, l.trans l1, (pk7_comm v1 v2 (l1.trans l2.symm)).symm⟩
/-- the list of commutators is a list of generators, of the derived group -/
theorem comms_gen {ps C : List (List Int)} (hg : GenP ps) (hC : Lists (ps.getD 0 []).length C (fun a => a ∈ comms (pks ps))) : GenP C ∧ (C.getD 0 []).length = (ps.getD 0 []).length ∧ ∀ a, Gen (pks C) a ↔ Gen (comms (pks ps)) a := by
  have hv0 := (validL_iff _).1 (hg.2.2 0 hg.1).1
  have hm := hC.mem hv0.1 hv0.2.1
  have h0 : ps.getD 0 [] ∈ ps := by simp [show 0 < ps.length from hg.1]
  obtain ⟨u, l⟩ := commL_valid (hg.2.2 0 hg.1).1 (hg.2.2 0 hg.1).1 rfl
  have hc0 : commL (ps.getD 0 []) (ps.getD 0 []) ∈ C := (hm _).2 ⟨u, l, by
    rw [pk7_comm (hg.2.2 0 hg.1).1 (hg.2.2 0 hg.1).1 rfl]
    exact mem_comms.2 ⟨_, _, List.mem_map.2 ⟨_, h0, rfl⟩, List.mem_map.2 ⟨_, h0, rfl⟩, rfl⟩⟩
  have hpos := List.length_pos_of_mem hc0
  have hl0 := hC.get hpos
  refine ⟨⟨hpos, Nat.le_trans hC.len (fact_le _ hv0.2.1).2, fun i hi => ?_⟩, hl0, gen_same fun x => ?_⟩
  · have := (hm (C.getD i [])).1 (by simp [hi])
    rw [hl0]; exact ⟨this.1, this.2.1⟩
  · unfold pks
    rw [List.mem_map]
    constructor
    · rintro ⟨p, hp, rfl⟩; exact ((hm p).1 hp).2.2
    · intro hx
      obtain ⟨p, v, l, rfl⟩ := comms_pk hg hx
      exact ⟨p, (hm p).2 ⟨v, l, hx⟩, rfl⟩

set_option maxHeartbeats 1000000 in
theorem refDer_any (v : Value) (ps : List (List Int)) (w : World) (h : Sps w v ps) (hg : GenP ps) :
    Calls Try.prog 29 #[v] w fun e w' => ∃ x q, e = .returned x ∧ Owp w.heap.size w' x q ∧ Lists (ps.getD 0 []).length q (Gen (comms (pks ps))) ∧ Below w.heap.size w w' := by
  have HH := Lib.hid h
  have HG := Lib.hid hg
  obtain ⟨a, cap, rfl, _⟩ := h
  obtain ⟨m, hm⟩ : ∃ m, m = ps.length := ⟨_, rfl⟩
  rw [← hm] at HH ⊢
  clear hg hm
  go_enter Try.func29, Try.ntmps29
  go_wp2_with fail
  refine (refComms_any _ ps _ HH.out HG.out).mono ?_
  rintro e w1 ⟨x, rfl, ho, hb⟩
  obtain ⟨C, hC⟩ : ∃ C, C = rl (ps.getD 0 []).length (rks (cmTo ps ps.length 0)) := ⟨_, rfl⟩
  have hL := comms_lists HG.out
  rw [← hC] at ho hL
  have HO := Lib.hid ho
  have HL := Lib.hid (comms_gen HG.out hL)
  have HB := Lib.hid hb
  obtain ⟨xa, xc, rfl, _⟩ := ho.sps
  obtain ⟨l, hl⟩ : ∃ l, l = C.length := ⟨_, rfl⟩
  rw [← hl] at HO ⊢
  clear ho hb hL hC hl
  go_wp2_with fail
  refine (refClose_any _ C _ HO.out.sps HL.out.1).mono ?_
  rintro e w2 ⟨y, s, rfl, ho, hmem, hb⟩
  rw [HL.out.2.1] at ho hmem
  have HO2 := Lib.hid (ho.mono HB.out.size)
  have HM := Lib.hid hmem
  have HB2 := Lib.hid (HB.out.trans (hb.mono HB.out.size))
  clear ho hmem hb
  go_wp2_with fail
  go_ret
  exact ⟨y, _, rfl, HO2.out, ⟨s, rfl, fun p hv hl => (HM.out p hv hl).trans (HL.out.2.2 _)⟩, HB2.out⟩
end Go.Proofs.Ytjnjhfificpbbaa
namespace Go.Proofs.Ytjnjhfificpbbaa
open Go Go.RowKit

/-- a list of permutations stands where what has turned is a row of another type -/
theorem Owp.other {B : Nat} {w w' : World} {v : Value} {ps : List (List Int)} {row : Option Nat} {t : TypeId} (h : Owp B w v ps) (hg : w.grownBy w' row) (ht : ∀ b, row = some b → ∃ cur, w.heap[b]? = some (.cells cur t (0, 0))) (h1 : 32 ≠ t) (h2 : 3 ≠ t) : Owp B w' v ps := by
  obtain ⟨vs, a, b, c⟩ := h
  exact ⟨vs, a, row_other b hg ht h1, fun i hi => row_other (c i hi) hg ht h2⟩
theorem Owp.alloc {B : Nat} {w : World} {v : Value} {ps : List (List Int)} (h : Owp B w v ps) (o : Obj) : Owp B (w.alloc o) v ps := by
  obtain ⟨vs, a, b, c⟩ := h
  exact ⟨vs, a, b.alloc o, fun i hi => World.ownsRow.alloc (c i hi) o⟩
theorem Owp.below' {B : Nat} {w w' : World} {v : Value} {ps : List (List Int)} (h : Owp B w v ps) (hb : Below w.heap.size w w') : Owp B w' v ps := by
  obtain ⟨vs, a, b, c⟩ := h
  exact ⟨vs, a, row_below b hb, fun i hi => (c i hi).below hb⟩
/-- a list that came in, or one of the call's own -/
def ElS (w wr : World) (x : Value) (q : List (List Int)) : Prop := Sps w x q ∨ Owp w.heap.size wr x q
theorem ElS.sps {w wr : World} {x : Value} {q : List (List Int)} (h : ElS w wr x q) (hb : Below w.heap.size w wr) : Sps wr x q := by
  rcases h with h | h
  · exact h.below hb
  · exact h.sps
theorem ElS.below {w wr w' : World} {x : Value} {q : List (List Int)} (h : ElS w wr x q) (hb : Below wr.heap.size wr w') : ElS w w' x q := by
  rcases h with h | h
  · exact .inl h
  · exact .inr (h.below' hb)
theorem ElS.other {w wr w' : World} {x : Value} {q : List (List Int)} {o : Obj} {row : Option Nat} (h : ElS w wr x q) (hg : (wr.alloc o).grownBy w' row) (ht : ∀ b, row = some b → ∃ cur, (wr.alloc o).heap[b]? = some (.cells cur 22 (0, 0))) : ElS w w' x q := by
  rcases h with h | h
  · exact .inl h
  · exact .inr ((h.alloc o).other hg ht (by decide) (by decide))

/-- each but the first is the derived group of the one before it, and smaller -/
def ChR (n : Nat) : List (List (List Int)) → Prop
  | [] => True
  | [_] => True
  | q :: d :: r => Lists n d (Gen (comms (pks q))) ∧ d.length < q.length ∧ ChR n (d :: r)
theorem ChR.snoc {n : Nat} {q d : List (List Int)} (hd : Lists n d (Gen (comms (pks q)))) (hl : d.length < q.length) : ∀ {qs : List (List (List Int))}, ChR n (qs ++ [q]) → ChR n (qs ++ [q] ++ [d])
  | [], _ => ⟨hd, hl, trivial⟩
  | [_], h => ⟨h.1, h.2.1, hd, hl, trivial⟩
  | _ :: m :: qs, h => ⟨h.1, h.2.1, ChR.snoc (qs := m :: qs) hd hl h.2.2⟩
/-- the derived group, as a list -/
theorem der_grp {q d : List (List Int)} {n : Nat} (hq : IsGrp q) (hn : (q.getD 0 []).length = n) (hd : Lists n d (Gen (comms (pks q)))) : IsGrp d ∧ (d.getD 0 []).length = n ∧ (∀ a, a ∈ pks d ↔ Gen (comms (pks q)) a) ∧ d.length ≤ q.length ∧ (d.length = q.length → ∀ a, a ∈ pks q ↔ Gen (comms (pks q)) a) := by
  have hv0 := (validL_iff _).1 (hq.1.2.2 0 hq.1.1).1
  rw [hn] at hv0
  have hec : Els (comms (pks q)) := fun x hx => by
    obtain ⟨a, b, ha, hb, rfl⟩ := mem_comms.1 hx
    exact (hq.1.els a ha).comm (hq.1.els b hb)
  have hsub : ∀ a, Gen (comms (pks q)) a → a ∈ pks q := fun a ha => hq.2.2 a (Gen.sub hq.1.els (fun x hx => by
    obtain ⟨a, b, ha, hb, rfl⟩ := mem_comms.1 hx
    exact Gen.comm hq.1.els (Gen.of_mem hq.1.els ha) (Gen.of_mem hq.1.els hb)) ha)
  obtain ⟨h1, h2, h3⟩ := hd.grp hv0.1 hv0.2.1 hec fun a ha => by
    obtain ⟨p, hp, rfl⟩ := List.mem_map.1 (hsub a ha)
    obtain ⟨v, l⟩ := hq.1.mem hp
    exact ⟨p, v, l.trans hn, rfl⟩
  have hnd := pks_nodup h1.1 h1.2.1
  have hle := nodup_le hnd (fun x hx => hsub x ((h3 x).1 hx))
  rw [pks_len, pks_len] at hle
  refine ⟨h1, h2, h3, hle, fun he a => ⟨fun ha => ?_, hsub a⟩⟩
  exact (h3 a).1 (nodup_full hnd (fun x hx => hsub x ((h3 x).1 hx)) (by rw [pks_len, pks_len]; omega) ha)

/-- what the reference's Series of a group is -/
def SerR (ps : List (List Int)) (qs : List (List (List Int))) : Prop := ∃ qs' q, qs = qs' ++ [q] ∧ ChR (ps.getD 0 []).length qs ∧ qs.head? = some ps ∧ IsGrp q ∧ (q.getD 0 []).length = (ps.getD 0 []).length ∧ ∃ d, Lists (ps.getD 0 []).length d (Gen (comms (pks q))) ∧ d.length = q.length

set_option maxRecDepth 100000 in
set_option maxHeartbeats 4000000 in
theorem refSeries_any (v : Value) (ps : List (List Int)) (w : World) (h : Sps w v ps) (hg : IsGrp ps) :
    Calls Try.prog 30 #[v] w fun e w' => ∃ x xs qs, e = .returned x ∧ VRow w.heap.size w' x xs ∧ xs.length = qs.length ∧ (∀ i, i < qs.length → ElS w w' (xs.getD i undef) (qs.getD i [])) ∧ SerR ps qs ∧ qs.length ≤ 5041 ∧ Below w.heap.size w w' := by
  obtain ⟨i0, hi, hz0, hz1, hz2⟩ := info_parts infoPs
  have HH := Lib.hid h
  have HG := Lib.hid hg
  obtain ⟨a, cap, rfl, _⟩ := h
  obtain ⟨m, hm⟩ : ∃ m, m = ps.length := ⟨_, rfl⟩
  have HM := Lib.hid hm
  have hm5 : m ≤ 5040 := by rw [hm]; exact hg.1.2.1
  rw [← hm] at HH ⊢
  clear hg hm
  go_enter Try.func30, Try.ntmps30
  go_wp2_with fail
  have B0 := Lib.hid ((Below.refl w.heap.size w).alloc (Nat.le_refl _) (.cells #[.slice a m cap] 22))
  have R0 := Lib.hid (show VRow w.heap.size (w.alloc (.cells #[.slice a m cap] 22)) (.slice (some ⟨w.heap.size, 0, none⟩) 1 1) [.slice a m cap] from
    ⟨rfl, .inr ⟨w.heap.size, 1, _, rfl, Nat.le_refl _, Blk.new w _ _, Nat.le_refl _, by unfold maxLen; omega, rfl, rfl⟩⟩)
  generalize w.alloc (.cells #[.slice a m cap] 22) = w1 at *
  go_loopw [0, 3] (fun tv ov wr => ∃ q qs xs, Hid (∃ la lc, tv = .slice la q.length lc) ∧ Hid (ElS w wr tv q) ∧ Hid (VRow w.heap.size wr ov xs) ∧ Hid (xs.length = (qs ++ [q]).length) ∧ Hid (∀ i, i < (qs ++ [q]).length → ElS w wr (xs.getD i undef) ((qs ++ [q]).getD i [])) ∧ Hid (ChR (ps.getD 0 []).length (qs ++ [q])) ∧ Hid ((qs ++ [q]).head? = some ps) ∧ Hid (IsGrp q ∧ (q.getD 0 []).length = (ps.getD 0 []).length) ∧ Hid (qs.length + q.length ≤ 5040) ∧ Hid (Below w.heap.size w wr)) (fun tv _ _ => lenOf tv)
  case atStart => exact ⟨ps, [], _, Lib.hid ⟨a, cap, by rw [← HM.out]⟩, Lib.hid (.inl HH.out), R0, Lib.hid rfl, Lib.hid (fun i hi => by
    have e : i = 0 := by simpa using hi
    subst e
    exact .inl HH.out), Lib.hid trivial, Lib.hid rfl, Lib.hid ⟨HG.out, rfl⟩, Lib.hid (by simp; rw [← HM.out]; exact hm5), B0⟩
  case round =>
    clear R0 B0
    obtain ⟨q, qs, xs, HT, HE, HR, HL, HA, HC, HHd, HQ, HN, HB⟩ := hrel
    obtain ⟨la, lc, rfl⟩ := HT.out
    obtain ⟨l, hl⟩ : ∃ l, l = q.length := ⟨_, rfl⟩
    rw [← hl] at HE HT ⊢
    have HLq := Lib.hid hl
    clear hl
    go_wp2_with fail
    refine (refDer_any _ q _ (HE.out.sps HB.out) HQ.out.1.1).mono ?_
    rintro e w2 ⟨y, d, rfl, ho, hd, hb⟩
    rw [HQ.out.2] at hd
    obtain ⟨g1, g2, g3, g4, g5⟩ := der_grp HQ.out.1 HQ.out.2 hd
    rw [← HLq.out] at g4
    have HO := Lib.hid (ho.mono HB.out.size)
    have HD := Lib.hid hd
    have HGd := Lib.hid (show IsGrp d ∧ (d.getD 0 []).length = (ps.getD 0 []).length from ⟨g1, g2⟩)
    have HB2 := Lib.hid (HB.out.trans (hb.mono HB.out.size))
    have HA2 := Lib.hid (show ∀ i, i < (qs ++ [q]).length → ElS w w2 (xs.getD i undef) ((qs ++ [q]).getD i []) from fun i hi => (HA.out i hi).below hb)
    have HR2 := Lib.hid (show VRow w.heap.size w2 _ xs from row_below HR.out hb)
    obtain ⟨ya, yc, rfl, _⟩ := ho.sps
    obtain ⟨ld, hld⟩ : ∃ ld, ld = d.length := ⟨_, rfl⟩
    have HLd := Lib.hid hld
    rw [← hld] at g4 HO ⊢
    clear ho hd hb hld g1 g2 g3 g5 HA HR
    by_cases heq : ld = l
    · have HSr := Lib.hid (show SerR ps (qs ++ [q]) from ⟨qs, q, rfl, HC.out, HHd.out, HQ.out.1, HQ.out.2, d, HD.out, by rw [← HLd.out, ← HLq.out]; exact heq⟩)
      go_wp2_with fail
      go_ret
      exact ⟨_, xs, _, rfl, HR2.out, HL.out, HA2.out, HSr.out, by have := HN.out; simp; omega, HB2.out⟩
    · have hlt : ld < l := by omega
      have HC2 := Lib.hid (HC.out.snoc HD.out (by rw [← HLd.out, ← HLq.out]; exact hlt))
      have hxl : xs.length ≤ 5041 := by
        have h1 := HL.out
        have h2 := HN.out
        simp at h1; omega
      have hsw := HB2.out.size
      have HRw := Lib.hid HR2.out
      have hR2 : w2.ownsRow w.heap.size 22 1 u3 xs.length xs := HR2.out
      clear HC HR2
      go_wp2_with (at_builtin; go_loud (refine wpList_append_own _ rfl _ _ 33 rfl w.heap.size 22 i0 (.slice none 0 0) 1 24 Try.underlying33 hi hz0 hz1 hz2 rfl (by decide) u3 xs.length xs rfl (hR2.alloc _) ⟨w2.heap.size, 0, none⟩ 1 1 [.slice ya ld yc] rfl rfl (cell_one_new _ _ _) (by simp [Value.oneCell']) (by unfold maxLen; omega) (by omega) (by simp; omega) ?_; intro v' w3 hown' hgrow _))
      have ht := row_typ (hR2.alloc (.cells #[.slice ya ld yc] 22))
      have TR := Lib.hid (show VRow w.heap.size w3 v' (xs ++ [.slice ya ld yc]) from by
        unfold VRow
        rw [List.length_append]
        exact hown')
      have TA := Lib.hid (show ∀ i, i < (qs ++ [q] ++ [d]).length → ElS w w3 ((xs ++ [Value.slice ya ld yc]).getD i undef) ((qs ++ [q] ++ [d]).getD i []) from fun i hi => by
        rw [List.length_append] at hi
        simp only [List.length_cons, List.length_nil] at hi
        have hl := HL.out
        by_cases e : i < (qs ++ [q]).length
        · have e1 : (xs ++ [Value.slice ya ld yc]).getD i undef = xs.getD i undef := by simp [List.getD_eq_getElem?_getD, List.getElem?_append_left (show i < xs.length by omega)]
          have e2 : (qs ++ [q] ++ [d]).getD i [] = (qs ++ [q]).getD i [] := by rw [List.getD_eq_getElem?_getD, List.getElem?_append_left e, ← List.getD_eq_getElem?_getD]
          rw [e1, e2]; exact (HA2.out i e).other hgrow ht
        · have e0 : i = (qs ++ [q]).length := by omega
          have e1 : (xs ++ [Value.slice ya ld yc]).getD i undef = .slice ya ld yc := by rw [e0, ← hl]; simp
          have e2 : (qs ++ [q] ++ [d]).getD i [] = d := by rw [e0]; simp
          rw [e1, e2]; exact ElS.other (.inr HO.out) hgrow ht)
      have TE := Lib.hid (show ElS w w3 (.slice ya ld yc) d from ElS.other (.inr HO.out) hgrow ht)
      have TB := Lib.hid ((HB2.out.alloc hsw (.cells #[.slice ya ld yc] 22)).grown hgrow (by simp; omega) (fun r e => (hR2.lt r e).1))
      clear hown' hgrow hR2 ht
      go_wp2
      go_roundw
      case rel => exact ⟨d, qs ++ [q], _, Lib.hid ⟨ya, yc, by rw [HLd.out]⟩, TE, TR, Lib.hid (by rw [List.length_append, HL.out]; simp), TA, HC2, Lib.hid (by have := HHd.out; rw [List.head?_append, this]; rfl), HGd, Lib.hid (by have := HN.out; rw [List.length_append, ← HLd.out]; rw [← HLq.out] at this; simp; omega), TB⟩
      case measure => simp [lenOf]; omega

/-- v is a slice of lists of permutations that reads as qs -/
def Spss (w : World) (v : Value) (qs : List (List (List Int))) : Prop :=
  ∃ (a : Option Addr) (cap : Nat), v = .slice a qs.length cap ∧
    (qs = [] ∨ ∃ b off, a = some ⟨b, off, none⟩ ∧ ∀ i, i < qs.length → ∃ x, w.cell? ⟨b, off + i, none⟩ = some x ∧ Sps w x (qs.getD i []))
theorem Spss.below {w w' : World} {v : Value} {qs : List (List (List Int))} (h : Spss w v qs) (hb : Below w.heap.size w w') : Spss w' v qs := by
  obtain ⟨a, cap, rfl, h⟩ := h
  refine ⟨a, cap, rfl, ?_⟩
  rcases h with h | ⟨b, off, rfl, h⟩
  · exact .inl h
  · refine .inr ⟨b, off, rfl, fun i hi => ?_⟩
    obtain ⟨x, h1, h2⟩ := h i hi
    exact ⟨x, (hb.cell (p := ⟨b, off + i, none⟩) (World.block_lt_of_cell? w _ h1)).trans h1, h2.below hb⟩
theorem VRow.spss {B : Nat} {w : World} {v : Value} {xs : List Value} {qs : List (List (List Int))} (h : VRow B w v xs) (hl : xs.length = qs.length) (ha : ∀ i, i < qs.length → Sps w (xs.getD i undef) (qs.getD i [])) : Spss w v qs := by
  have h0 := h
  rcases h.2 with ⟨e, h1⟩ | ⟨g, cap, cur, e, _⟩
  · exact ⟨none, 0, by rw [e, ← hl, h1], .inl (List.length_eq_zero_iff.1 (by omega))⟩
  · subst e
    refine ⟨_, cap, by rw [hl], .inr ⟨g, 0, rfl, fun i hi => ⟨xs.getD i undef, ?_, ha i hi⟩⟩⟩
    rw [Nat.zero_add, World.ownsRow.cellAt h0 i (by omega)]
    simp [show i < xs.length by omega]
/-- lists of lists that are small enough to be compared -/
def Small3 (qs : List (List (List Int))) : Prop := ∀ i, i < qs.length → (qs.getD i []).length ≤ 1000000 ∧ ∀ k, k < (qs.getD i []).length → ((qs.getD i []).getD k []).length ≤ 1000000

set_option maxRecDepth 100000 in
set_option maxHeartbeats 4000000 in
theorem refSameAll_any (u v : Value) (ps qs : List (List (List Int))) (w : World) (h1 : Spss w u ps) (h2 : Spss w v qs) (hn : ps.length ≤ 1000000) (hp : Small3 ps) (hq : Small3 qs) :
    Calls Try.prog 31 #[u, v] w fun e w' => ∃ r, e = .returned (.bool r) ∧ Says r (ps = qs) ∧ Below w.heap.size w w' := by
  obtain ⟨a1, c1, rfl, h1⟩ := h1
  obtain ⟨a2, c2, rfl, h2⟩ := h2
  obtain ⟨n, hn0⟩ : ∃ n, n = ps.length := ⟨_, rfl⟩
  obtain ⟨m, hm0⟩ : ∃ m, m = qs.length := ⟨_, rfl⟩
  have HN := Lib.hid hn0
  have HM := Lib.hid hm0
  have HX := Lib.hid hp
  have HY := Lib.hid hq
  rw [← hn0] at hn
  rw [← hn0, ← hm0]
  have D : ((n : Int) != (m : Int)) = !decide (n = m) := by
    by_cases e : n = m <;> simp [e]
    omega
  by_cases hlen : n = m
  · rw [decide_eq_true hlen] at D
    have HLn := Lib.hid hlen
    have H1 := Lib.hid h1
    have H2 := Lib.hid h2
    clear h1 h2 hp hq hn0 hm0 hlen
    go_enter Try.func31, Try.ntmps31
    go_wp2_with fail
    go_loopw [5] (fun i wr => ∃ k : Nat, i = .int .i64 k ∧ k ≤ n ∧ Hid (∀ i, i < k → ps.getD i [] = qs.getD i []) ∧ Hid (Below w.heap.size w wr)) (fun i _ => n - (intOf i).toNat)
    case atStart => exact ⟨0, rfl, Nat.zero_le _, Lib.hid (fun i hi => by omega), Lib.hid (Below.refl _ _)⟩
    case round =>
      obtain ⟨k, rfl, hk, HE, HB⟩ := hrel
      by_cases hlt : k < n
      · have hlm : k < m := by have := HLn.out; omega
        rcases H1.out with h1 | ⟨b1, o1, rfl, h1⟩
        · have := HN.out; rw [h1] at this; simp at this; omega
        rcases H2.out with h2 | ⟨b2, o2, rfl, h2⟩
        · have := HM.out; rw [h2] at this; simp at this; omega
        obtain ⟨x, g1, s1⟩ := h1 k (by rw [← HN.out]; exact hlt)
        obtain ⟨y, g2, s2⟩ := h2 k (by rw [← HM.out]; exact hlm)
        have hb1 : b1 < w.heap.size := World.block_lt_of_cell? w _ g1
        have hb2 : b2 < w.heap.size := World.block_lt_of_cell? w _ g2
        obtain ⟨lx, lx'⟩ := HX.out k (by rw [← HN.out]; exact hlt)
        obtain ⟨ly, ly'⟩ := HY.out k (by rw [← HM.out]; exact hlm)
        have cx : ∀ w', Below w.heap.size w w' → w'.cell? ⟨b1, o1 + k, none⟩ = some x := fun w' h => (h.cell (p := ⟨b1, o1 + k, none⟩) hb1).trans g1
        have cy : ∀ w', Below w.heap.size w w' → w'.cell? ⟨b2, o2 + k, none⟩ = some y := fun w' h => (h.cell (p := ⟨b2, o2 + k, none⟩) hb2).trans g2
        have HS1 := Lib.hid s1
        have HS2 := Lib.hid s2
        have CX := Lib.hid cx
        have CY := Lib.hid cy
        have LX := Lib.hid lx
        have LX' := Lib.hid lx'
        have LY' := Lib.hid ly'
        have HLt := Lib.hid hlt
        obtain ⟨xa, xc, rfl, _⟩ := s1
        obtain ⟨ya, yc, rfl, _⟩ := s2
        obtain ⟨nx, hnx⟩ : ∃ nx, nx = (ps.getD k []).length := ⟨_, rfl⟩
        obtain ⟨ny, hny⟩ : ∃ ny, ny = (qs.getD k []).length := ⟨_, rfl⟩
        rw [← hnx] at HS1 CX
        rw [← hny] at HS2 CY
        clear h1 h2 g1 g2 cx cy lx lx' ly ly' hnx hny
        go_wp2_with fail
        refine wp_region_held_all (S := fun w' => Below w.heap.size w w') (by kernel_rfl) ?_
        have hS : Below w.heap.size w wr.drew := below_drewN' HB.out 1
        refine held_take (i := 0) (v := .slice (some ⟨b1, o1, none⟩) n c1) rfl rfl (by kernel_rfl) (by kernel_rfl) (by kernel_rfl) (fun w' h => by go_simp) hS ?_
        refine held_take (i := 1) (v := .int .i64 k) rfl rfl (by kernel_rfl) (by kernel_rfl) (by kernel_rfl) (fun w' h => by go_simp) hS ?_
        refine held_take (i := 2) (v := .pointer (some ⟨b1, o1 + k, none⟩)) rfl rfl (by kernel_rfl) (by kernel_rfl) (by kernel_rfl) (fun w' h => by go_simp) hS ?_
        refine held_take (i := 3) (v := .slice xa nx xc) rfl rfl (by kernel_rfl) (by kernel_rfl) (by kernel_rfl) (fun w' h => by have h1 := CX.out w' h; go_simp) hS ?_
        simp [Act.put]
        refine held_take (i := 4) (v := .slice (some ⟨b2, o2, none⟩) m c2) rfl rfl (by kernel_rfl) (by kernel_rfl) (by kernel_rfl) (fun w' h => by go_simp) hS ?_
        refine held_take (i := 5) (v := .int .i64 k) rfl rfl (by kernel_rfl) (by kernel_rfl) (by kernel_rfl) (fun w' h => by go_simp) hS ?_
        refine held_take (i := 6) (v := .pointer (some ⟨b2, o2 + k, none⟩)) rfl rfl (by kernel_rfl) (by kernel_rfl) (by kernel_rfl) (fun w' h => by go_simp) hS ?_
        refine held_take (i := 7) (v := .slice ya ny yc) rfl rfl (by kernel_rfl) (by kernel_rfl) (by kernel_rfl) (fun w' h => by have h1 := CY.out w' h; go_simp) hS ?_
        simp [Act.put]
        refine held_only (i := 8) rfl rfl (by kernel_rfl) (wp_call_any 18 Try.func18 (by kernel_rfl) rfl _ _ rfl #[.slice xa nx xc, .slice ya ny yc] rfl ((refSame_any _ _ (ps.getD k []) (qs.getD k []) wr.drew (HS1.out.below hS) (HS2.out.below hS) LX.out LX'.out LY'.out).mono ?_))
        rintro e w5 ⟨r, rfl, hr, hb5⟩
        have hS5 : Below w.heap.size w w5 := hS.trans (hb5.mono hS.size)
        refine ⟨_, rfl, hS5, ?_⟩
        have HR := Lib.hid hr
        clear hr hb5
        simp [Act.put]
        refine held_take (i := 9) (v := .bool (!r)) rfl rfl (by kernel_rfl) (by kernel_rfl) (by kernel_rfl) (fun w' h => by go_simp) hS5 ?_
        refine held_done (by kernel_rfl) ?_
        have HS5 := Lib.hid hS5
        clear hS hS5
        simp [Act.put]
        cases r with
        | true =>
          have HE2 := Lib.hid (show ∀ i, i < k + 1 → ps.getD i [] = qs.getD i [] from fun i hi => by
            by_cases e : i = k
            · subst e; exact HR.out.1 rfl
            · exact HE.out i (by omega))
          go_wp2_with fail
          go_roundw
          case rel => exact ⟨k + 1, by go_num, by omega, HE2, HS5⟩
          case measure => simp [intOf]; omega
        | false =>
          have HSy := Lib.hid (show Says false (ps = qs) from Says.no fun e => by
            have := HR.out.2 (by rw [e])
            cases this)
          go_wp2_with fail
          go_ret
          exact ⟨false, rfl, HSy.out, HS5.out⟩
      · have HSy := Lib.hid (show Says true (ps = qs) from Says.yes (by
          apply List.ext_getElem (by rw [← HN.out, ← HM.out]; exact HLn.out)
          intro i h1 h2
          have := HE.out i (by rw [← HN.out] at h1; omega)
          simpa [h1, h2] using this))
        go_wp2_with fail
        go_ret
        exact ⟨true, rfl, HSy.out, HB.out⟩
  · rw [decide_eq_false hlen] at D
    have HSy := Lib.hid (show Says false (ps = qs) from Says.no fun e => hlen (by rw [hn0, hm0, e]))
    clear h1 h2 hp hq hn0 hm0 hlen
    go_enter Try.func31, Try.ntmps31
    go_wp2_with fail
    go_ret
    exact ⟨false, rfl, HSy.out, Below.refl _ _⟩

/-- the laws' closed: the group that the generators generate, if there are at most 360 elements -/
def ClosedOf (gs ps : List (List Int)) : Prop := GenP gs ∧ IsGrp ps ∧ ps.length ≤ 360 ∧ (ps.getD 0 []).length = (gs.getD 0 []).length ∧ Lists (gs.getD 0 []).length ps (Gen (pks gs)) ∧ ∀ a, a ∈ pks ps ↔ Gen (pks gs) a
set_option maxRecDepth 100000 in
set_option maxHeartbeats 2000000 in
theorem closed_any (v : Value) (gs : List (List Int)) (w : World) (h : InPs w v gs) :
    Calls Try.prog 28 #[v] w fun e w' => Below w.heap.size w w' ∧ ((∃ a l c, e = .returned (.tuple #[.slice a l c, .bool false])) ∨ ∃ x ps, e = .returned (.tuple #[x, .bool true]) ∧ Owp w.heap.size w' x ps ∧ ClosedOf gs ps ∧ ∀ i, i < gs.length → (gs.getD i []).length ≤ 100) := by
  have HI := Lib.hid h
  obtain ⟨⟨a, cap, rfl, _⟩, _, _⟩ := h
  obtain ⟨m, hm⟩ : ∃ m, m = gs.length := ⟨_, rfl⟩
  have HM := Lib.hid hm
  rw [← hm] at HI ⊢
  clear hm
  go_enter Try.func28, Try.ntmps28
  go_wp2_with fail
  refine (few_any _ gs 30 _ HI.out (by decide)).mono ?_
  rintro e w1 ⟨r, rfl, hs, rfl⟩
  have HS := Lib.hid hs
  clear hs
  cases r with
  | false =>
    clear HS
    go_wp2_with fail
    go_ret2
    exact ⟨Below.refl _ _, .inl ⟨_, _, _, rfl⟩⟩
  | true =>
    have HF := Lib.hid (HS.out.1 rfl)
    have HX := Lib.hid (show ∀ i, i < gs.length → (gs.getD i []).length ≤ 1000000 from fun i hi => Nat.le_trans (HF.out.2 i hi) (by decide))
    clear HS
    go_wp2_with fail
    refine (refGens_any _ gs _ HI.out.1 HX.out).mono ?_
    rintro e w2 ⟨r, rfl, hs, hb2⟩
    have HS := Lib.hid hs
    have HB2 := Lib.hid hb2
    have HI2 := Lib.hid (HI.out.1.below hb2)
    clear hs hb2
    cases r with
    | false =>
      clear HS
      go_wp2_with fail
      go_ret2
      exact ⟨HB2.out, .inl ⟨_, _, _, rfl⟩⟩
    | true =>
      have HG := Lib.hid (HS.out.1 rfl)
      clear HS
      go_wp2_with fail
      refine (refClose_any _ gs _ HI2.out HG.out).mono ?_
      rintro e w3 ⟨x, s, rfl, ho, hmem, hb3⟩
      have HB3 := Lib.hid (HB2.out.trans (hb3.mono HB2.out.size))
      have hv0 := (validL_iff _).1 (HG.out.2.2 0 HG.out.1).1
      obtain ⟨q, hq⟩ : ∃ q, q = rl (gs.getD 0 []).length s := ⟨_, rfl⟩
      have hL : Lists (gs.getD 0 []).length q (Gen (pks gs)) := ⟨s, hq, hmem⟩
      rw [← hq] at ho
      have hgr := hL.grp hv0.1 hv0.2.1 HG.out.els (fun a ha => gen_pk HG.out ha)
      have HO := Lib.hid (ho.mono HB2.out.size)
      have HL := Lib.hid hL
      have HGr := Lib.hid hgr
      have hl5 : q.length ≤ 5040 := hgr.1.1.2.1
      obtain ⟨xa, xc, rfl, _⟩ := ho.sps
      obtain ⟨l, hl⟩ : ∃ l, l = q.length := ⟨_, rfl⟩
      have HLq := Lib.hid hl
      rw [← hl] at HO hl5 ⊢
      clear ho hmem hb3 hv0 hq hL hgr hl
      by_cases h360 : l ≤ 360
      · have d1 : decide ((l : Int) ≤ 360) = true := decide_eq_true (by omega)
        go_wp2_with fail
        go_ret2
        exact ⟨HB3.out, .inr ⟨_, q, rfl, HO.out, ⟨HG.out, HGr.out.1, by rw [← HLq.out]; exact h360, HGr.out.2.1, HL.out, HGr.out.2.2⟩, by rw [HM.out]; exact HF.out.2⟩⟩
      · have d1 : decide ((l : Int) ≤ 360) = false := decide_eq_false (by omega)
        go_wp2_with fail
        go_ret2
        exact ⟨HB3.out, .inl ⟨_, _, _, rfl⟩⟩
end Go.Proofs.Ytjnjhfificpbbaa
namespace Go.Proofs.Ytjnjhfificpbbaa
open Go Go.RowKit

theorem grp_pair {q : List (List Int)} (h : IsGrp q) : q.Pairwise fun a b => cmpLex a b < 0 := by
  rw [List.pairwise_iff_getElem]
  intro i j hi hj hij
  have := rise_lt h.2.1 (i := i) (j - i - 1) (by omega)
  rw [show i + (j - i - 1) + 1 = j by omega] at this
  simpa [hi, hj] using this
theorem grp_len {q : List (List Int)} (h : IsGrp q) : ∀ p ∈ q, p.length = (q.getD 0 []).length := fun _ hp => (h.1.mem hp).2
/-- what perms hands back of the members of a listed group is the list -/
theorem perms_grp {n : Nat} {L L' q : List (List Int)} (hp : L'.Perm L) (ha : Asc L') (hn : L.Nodup) (hq : IsGrp q) (h0 : (q.getD 0 []).length = n) (hm : ∀ a, a ∈ L ↔ a ∈ pks q) : L'.map (List.take n) = q := by
  have hl := grp_len hq
  rw [h0] at hl
  obtain ⟨e1, e2⟩ := pks_rise hl (grp_pair hq)
  have e : L' = pks q := asc_uniq (hp.nodup_iff.2 hn) e1 ha e2 fun a => hp.mem_iff.trans (hm a)
  rw [e, pks_take hl]
theorem match_len {L q : List (List Int)} (hn : L.Nodup) (hq : IsGrp q) (hm : ∀ a, a ∈ L ↔ a ∈ pks q) : L.length = q.length := by
  have h1 := pks_nodup hq.1 hq.2.1
  have a := nodup_le hn (fun x hx => (hm x).1 hx)
  have b := nodup_le h1 (fun x hx => (hm x).2 hx)
  rw [pks_len] at a b
  omega

/-- the program's series and the reference's, list by list -/
def Mts (n : Nat) : List (List (List Int)) → List (List (List Int)) → Prop
  | [], [] => True
  | L :: Lr, q :: qr => ((∀ a, a ∈ L ↔ a ∈ pks q) ∧ IsGrp q ∧ (q.getD 0 []).length = n ∧ L.Nodup) ∧ Mts n Lr qr
  | _, _ => False
theorem Mts.len {n : Nat} : ∀ {Ls qs : List (List (List Int))}, Mts n Ls qs → Ls.length = qs.length
  | [], [], _ => rfl
  | _ :: _, _ :: _, h => by simp only [List.length_cons]; rw [Mts.len h.2]
theorem Mts.get {n : Nat} : ∀ {Ls qs : List (List (List Int))}, Mts n Ls qs → ∀ i, i < qs.length → (∀ a, a ∈ Ls.getD i [] ↔ a ∈ pks (qs.getD i [])) ∧ IsGrp (qs.getD i []) ∧ ((qs.getD i []).getD 0 []).length = n ∧ (Ls.getD i []).Nodup
  | [], [], _, i, hi => by simp at hi
  | _ :: _, _ :: _, h, 0, _ => by simpa using h.1
  | _ :: _, _ :: _, h, i + 1, hi => by simpa using Mts.get h.2 i (by simpa using hi)
theorem ser_match {n : Nat} : ∀ {Lr qr : List (List (List Int))} {L q : List (List Int)}, Chn (L :: Lr) → (∃ M, (L :: Lr).getLast? = some M ∧ IsDer M M) → (∀ X ∈ L :: Lr, X.Nodup) → ChR n (q :: qr) → (∃ d z, (q :: qr).getLast? = some z ∧ Lists n d (Gen (comms (pks z))) ∧ d.length = z.length) → IsGrp q → (q.getD 0 []).length = n → (∀ a, a ∈ L ↔ a ∈ pks q) → Mts n (L :: Lr) (q :: qr)
  | [], [], L, q, _, _, hn, _, _, hq, h0, hm => ⟨⟨hm, hq, h0, hn L (by simp)⟩, trivial⟩
  | [], d :: r, L, q, _, ⟨M, hM, hd⟩, hn, hc, _, hq, h0, hm => by
    have e : M = L := by simpa using hM.symm
    subst e
    exfalso
    obtain ⟨g1, _, g3, _, _⟩ := der_grp hq h0 hc.1
    have h1 := match_len (hn M (by simp)) hq hm
    have h2 := match_len (hn M (by simp)) g1 fun a => ((hd.same hm) a).trans (g3 a).symm
    have := hc.2.1
    omega
  | K :: Lr, [], L, q, hC, _, hn, _, ⟨d, z, hz, hd, hl⟩, hq, h0, hm => by
    have e : z = q := by simpa using hz.symm
    subst e
    exfalso
    obtain ⟨_, _, _, _, g5⟩ := der_grp hq h0 hd
    have h1 := match_len (hn L (by simp)) hq hm
    have h2 := match_len (hn K (by simp)) hq fun a => ((hC.1.same hm) a).trans (g5 hl a).symm
    have := hC.2.1
    omega
  | K :: Lr, d :: qr, L, q, hC, ⟨M, hM, hMd⟩, hn, hc, ⟨e, z, hz, he, hl⟩, hq, h0, hm => by
    obtain ⟨g1, g2, g3, _, _⟩ := der_grp hq h0 hc.1
    refine ⟨⟨hm, hq, h0, hn L (by simp)⟩, ?_⟩
    exact ser_match hC.2.2 ⟨M, by simpa using hM, hMd⟩ (fun X hX => hn X (List.mem_cons_of_mem _ hX)) hc.2.2 ⟨e, z, by simpa using hz, he, hl⟩ g1 g2 fun a => ((hC.1.same hm) a).trans (g3 a).symm
theorem serR_match {ps : List (List Int)} {Ls qs : List (List (List Int))} (hg : IsGrp ps) (hs : SerOf ps Ls) (hr : SerR ps qs) : Mts (ps.getD 0 []).length Ls qs := by
  obtain ⟨h1, ⟨L0, h2, h3⟩, h4, h5⟩ := hs
  obtain ⟨qs', z, e, k1, k2, _, _, d, k3, k4⟩ := hr
  cases Ls with
  | nil => cases h2
  | cons L Lr =>
    cases qs with
    | nil => cases k2
    | cons q qr =>
      have e1 : L = L0 := by simpa using h2
      have e2 : q = ps := by simpa using k2
      subst e1 e2
      exact ser_match h1 h4 h5 k1 ⟨d, z, by rw [e]; simp, k3, k4⟩ hg rfl h3

theorem Mts.last {n : Nat} {Ls qs : List (List (List Int))} {M z : List (List Int)} (h : Mts n Ls qs) (hM : Ls.getLast? = some M) (hz : qs.getD (qs.length - 1) [] = z) (h0 : 0 < qs.length) : M.length = z.length := by
  have hl := h.len
  obtain ⟨g1, g2, _, g4⟩ := h.get (qs.length - 1) (by omega)
  rw [hz] at g1 g2
  have e : Ls.getD (qs.length - 1) [] = M := by
    rw [List.getLast?_eq_getElem?, hl] at hM
    rw [List.getD_eq_getElem?_getD, hM]; rfl
  rw [e] at g1 g4
  exact match_len g4 g2 g1
theorem IsGrp.small1 {q : List (List Int)} (h : IsGrp q) : q.length ≤ 1000000 ∧ ∀ k, k < q.length → (q.getD k []).length ≤ 1000000 := ⟨by have := h.1.2.1; omega, h.small⟩

set_option maxRecDepth 100000 in
set_option maxHeartbeats 4000000 in
theorem series_law (v : Value) (gs : List (List Int)) (w : World) (h : InPs w v gs) :
    Calls Try.prog 5 #[v] w fun e w' => e = .returned (.bool true) ∧ Below w.heap.size w w' := by
  have HI := Lib.hid h
  obtain ⟨⟨a, cap, rfl, _⟩, _, _⟩ := h
  obtain ⟨m, hm⟩ : ∃ m, m = gs.length := ⟨_, rfl⟩
  rw [← hm] at HI ⊢
  clear hm
  go_enter Try.func5, Try.ntmps5
  go_wp2_with fail
  refine (closed_any _ gs _ HI.out).mono ?_
  rintro e w1 ⟨hb1, ⟨xa, xl, xc, rfl⟩ | ⟨x, ps, rfl, ho, hc, _⟩⟩
  · have HB1 := Lib.hid hb1
    clear hb1
    go_wp2_with fail
    refine (alive_any _).mono ?_
    rintro e w2 ⟨rfl, hb⟩
    have HB := Lib.hid (HB1.out.trans (hb.mono HB1.out.size))
    clear hb
    go_wp2_with fail
    go_ret
    exact ⟨rfl, HB.out⟩
  · have HB1 := Lib.hid hb1
    have HG := Lib.hid hc.2.1
    have HX := Lib.hid hc.2.1.small
    have HS := Lib.hid ho.sps
    have h7 := Lib.hid hc.2.1.seven
    have hl360 := hc.2.2.1
    obtain ⟨pa, pc, rfl, _⟩ := ho.sps
    obtain ⟨n, hn⟩ : ∃ n, n = (ps.getD 0 []).length := ⟨_, rfl⟩
    have HN := Lib.hid hn
    obtain ⟨l, hl⟩ : ∃ l, l = ps.length := ⟨_, rfl⟩
    rw [← hl] at HS hl360 ⊢
    have HL := Lib.hid hl
    clear hb1 hc ho hn hl
    go_wp2_with fail
    refine (refDer_any _ ps _ HS.out HG.out.1).mono ?_
    rintro e w2 ⟨y, d, rfl, ho, hd, hb⟩
    have HB2 := Lib.hid (HB1.out.trans (hb.mono HB1.out.size))
    have HS2 := Lib.hid (HS.out.below hb)
    have HD := Lib.hid ho.sps
    have HDl := Lib.hid hd
    have HDg := Lib.hid (der_grp HG.out rfl hd)
    obtain ⟨ya, yc, rfl, _⟩ := ho.sps
    obtain ⟨ld, hld⟩ : ∃ ld, ld = d.length := ⟨_, rfl⟩
    rw [← hld] at HD ⊢
    clear ho hd hb hld
    go_wp2_with fail
    refine (refSeries_any _ ps _ HS2.out HG.out).mono ?_
    rintro e w3 ⟨u, us, qs, rfl, hu1, hu2, hu3, hu4, hu5, hb⟩
    have HB3 := Lib.hid (HB2.out.trans (hb.mono HB2.out.size))
    have HS3 := Lib.hid (HS2.out.below hb)
    have HD3 := Lib.hid (HD.out.below hb)
    have HU := Lib.hid (VRow.spss hu1 hu2 fun i hi => (hu3 i hi).sps hb)
    have HR := Lib.hid hu4
    obtain ⟨ua, uc, e0, hu6⟩ := HU.out
    subst e0
    obtain ⟨qs', z, eq, _⟩ := hu4
    have hq0 : 0 < qs.length := by rw [eq]; simp
    rcases hu6 with hu6 | ⟨ub, uo, rfl, hu6⟩
    · rw [hu6] at hq0; simp at hq0
    obtain ⟨zx, z1, z2⟩ := hu6 (qs.length - 1) (by omega)
    have ez : qs.getD (qs.length - 1) [] = z := by rw [eq]; simp
    rw [ez] at z2
    have HEz := Lib.hid ez
    obtain ⟨za, zc, rfl, _⟩ := z2
    obtain ⟨k, hk⟩ : ∃ k, k = qs.length := ⟨_, rfl⟩
    have HK := Lib.hid hk
    rw [← hk] at HU hq0 z1 hu5 ⊢
    obtain ⟨lz, hlz⟩ : ∃ lz, lz = z.length := ⟨_, rfl⟩
    have HLz := Lib.hid hlz
    rw [← hlz] at z1
    have z1' : w3.cell? ⟨ub, uo + (k - 1), none⟩ = some (.slice za lz zc) := z1
    have hk1 : ((k : Int) - 1) = ((k - 1 : Nat) : Int) := by omega
    have hkb : k ≤ 5041 := hu5
    obtain ⟨s0, hs0⟩ : ∃ s0, s0 = decide (lz = 1) := ⟨_, rfl⟩
    have hs1 : ((lz : Int) == 1) = s0 := by
      rw [hs0]
      by_cases e : lz = 1
      · subst e; rfl
      · rw [decide_eq_false e]; exact beq_eq_false_iff_ne.2 (by omega)
    have HS0 := Lib.hid hs0
    clear hu1 hu2 hu3 hu6 hb eq ez hk hlz z1 hs0 hu5
    go_wp2_with fail
    refine (Derived_any _ ps _ HS3.out HX.out).mono ?_
    rintro e w4 ⟨hb, hcase⟩
    obtain ⟨_, y2, K, rfl, hp, hnd, hder⟩ := hcase.resolve_left (fun h => h.1 HG.out)
    obtain ⟨L', p1, p2, p3⟩ := hp
    have he := perms_grp p1 p2 hnd HDg.out.1 HDg.out.2.1 (fun a => (hder a).trans (HDg.out.2.2.1 a).symm)
    rw [he] at p3
    have HB4 := Lib.hid (HB3.out.trans (hb.mono HB3.out.size))
    have HS4 := Lib.hid (HS3.out.below hb)
    have HD4 := Lib.hid (HD3.out.below hb)
    have HU4 := Lib.hid (HU.out.below hb)
    have HE4 := Lib.hid p3.sps
    obtain ⟨ya2, yc2, rfl, _⟩ := p3.sps
    obtain ⟨ld2, hld2⟩ : ∃ ld2, ld2 = d.length := ⟨_, rfl⟩
    rw [← hld2] at HE4 ⊢
    clear hb hcase p1 p2 p3 hnd hder he hld2
    go_wp2_with fail
    refine (Series_any _ ps _ HS4.out HX.out).mono ?_
    rintro e w5 ⟨hb, hcase⟩
    obtain ⟨_, s, ss, Ls, rfl, hser, hlen, hrow, hall⟩ := hcase.resolve_left (fun h => h.1 HG.out)
    have hmts := serR_match HG.out hser HR.out
    have hml := hmts.len
    have hspss : Spss w5 s qs := hrow.spss (hlen.trans hml) fun i hi => by
      obtain ⟨g1, g2, g3, g4⟩ := hmts.get i hi
      obtain ⟨L', p1, p2, p3⟩ := hall i (by omega)
      rw [perms_grp p1 p2 g4 g2 g3 g1] at p3
      exact p3.sps
    have HSm := Lib.hid (show Small3 qs from fun i hi => (hmts.get i hi).2.1.small1)
    have HB5 := Lib.hid (HB4.out.trans (hb.mono HB4.out.size))
    have HS5 := Lib.hid (HS4.out.below hb)
    have HD5 := Lib.hid (HD4.out.below hb)
    have HU5 := Lib.hid (HU4.out.below hb)
    have HE5 := Lib.hid (HE4.out.below hb)
    have HSs := Lib.hid hspss
    obtain ⟨sa, sc, rfl, _⟩ := hspss
    rw [← HK.out] at HSs ⊢
    clear hb hcase hser hlen hrow hall hmts hml
    go_wp2_with fail
    refine (Solvable_any _ ps _ HS5.out HX.out).mono ?_
    rintro e w6 ⟨hb, hcase⟩
    obtain ⟨_, Ls2, M, r, rfl, hser, hM, hr⟩ := hcase.resolve_left (fun h => h.1 HG.out)
    have hml := (serR_match HG.out hser HR.out).last hM HEz.out (by rw [← HK.out]; exact hq0)
    rw [← HLz.out] at hml
    have hrs : r = s0 := by
      rw [HS0.out]
      rw [hml] at hr
      cases r with
      | true => exact (decide_eq_true (hr.1 rfl)).symm
      | false => exact (decide_eq_false (fun h => by have := hr.2 h; cases this)).symm
    subst hrs
    have HB6 := Lib.hid (HB5.out.trans (hb.mono HB5.out.size))
    have HD6 := Lib.hid (HD5.out.below hb)
    have HU6 := Lib.hid (HU5.out.below hb)
    have HE6 := Lib.hid (HE5.out.below hb)
    have HSs6 := Lib.hid (HSs.out.below hb)
    have HSame := Lib.hid (show Calls Try.prog 18 #[.slice ya2 ld2 yc2, .slice ya ld yc] w6 fun e w' => e = .returned (.bool true) ∧ Below w6.heap.size w6 w' from
      (refSame_any _ _ d d w6 HE6.out HD6.out HDg.out.1.small1.1 HDg.out.1.small1.2 HDg.out.1.small1.2).mono fun e w' ⟨r, he, hr, hb⟩ => ⟨by rw [he, hr.2 rfl], hb⟩)
    clear hb hcase hser hM hr hml
    go_wp2_with fail
    refine HSame.out.mono ?_
    rintro e w7 ⟨rfl, hb⟩
    have HB7 := Lib.hid (HB6.out.trans (hb.mono HB6.out.size))
    have HU7 := Lib.hid (HU6.out.below hb)
    have HSs7 := Lib.hid (HSs6.out.below hb)
    have HSa := Lib.hid (show Calls Try.prog 31 #[.slice sa k sc, .slice (some ⟨ub, uo, none⟩) k uc] w7 fun e w' => e = .returned (.bool true) ∧ Below w7.heap.size w7 w' from
      (refSameAll_any _ _ qs qs w7 HSs7.out HU7.out (by rw [← HK.out]; omega) HSm.out HSm.out).mono fun e w' ⟨r, he, hr, hb⟩ => ⟨by rw [he, hr.2 rfl], hb⟩)
    clear hb
    go_wp2_with fail
    refine HSa.out.mono ?_
    rintro e w8 ⟨rfl, hb⟩
    have HB8 := Lib.hid (HB7.out.trans (hb.mono HB7.out.size))
    clear hb
    go_wp2_with fail
    refine (alive_any _).mono ?_
    rintro e w9 ⟨rfl, hb⟩
    have HB9 := Lib.hid (HB8.out.trans (hb.mono HB8.out.size))
    clear hb
    go_wp2_with fail
    go_ret
    exact ⟨rfl, HB9.out⟩
end Go.Proofs.Ytjnjhfificpbbaa
