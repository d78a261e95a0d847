/- GroupClasses. -/
import Derived.Test.YtjnjhfificpbbaaCLS
namespace Go.Proofs.Ytjnjhfificpbbaa
open Go Go.RowKit

theorem pks_all {ps G L S : List (List Int)} (hp : IsGrp ps) (g : Grp G L) (hm : ∀ a, a ∈ L ↔ Gen (pks ps) a) (hs : S.Perm L) (ha : Asc S) : S = pks ps := by
  obtain ⟨e1, e2⟩ := pks_rise (grp_len hp) (grp_pair hp)
  exact asc_uniq (hs.nodup_iff.2 g.nd) e1 ha e2 fun a => (hs.mem_iff.trans (hm a)).trans ⟨hp.2.2 a, Gen.of_mem hp.1.els⟩
theorem cen_list {ps G L L' : List (List Int)} (hp : IsGrp ps) (g : Grp G L) (hm : ∀ a, a ∈ L ↔ Gen (pks ps) a) (hs : L'.Perm (cenTo G L L.length)) (ha : Asc L') : L'.map (List.take (ps.getD 0 []).length) = cenL ps :=
  perms_list hs ha (by unfold cenTo; rw [List.take_length]; exact g.nd.filter _) ((grp_pair hp).filter _) (fun p hp' => grp_len hp p (List.mem_filter.1 hp').1) (center_match hp g hm)
theorem cen_small {ps : List (List Int)} (hp : IsGrp ps) : (cenL ps).length ≤ 1000000 ∧ ∀ i, i < (cenL ps).length → ((cenL ps).getD i []).length ≤ 1000000 := by
  have h1 : (cenL ps).length ≤ ps.length := List.length_filter_le _ _
  refine ⟨by have := hp.1.2.1; omega, fun i hi => ?_⟩
  have h2 : (cenL ps).getD i [] ∈ cenL ps := by simp [hi]
  rw [grp_len hp _ (List.mem_filter.1 h2).1]
  have := hp.seven
  omega
theorem clsR_small {ps : List (List Int)} (hp : IsGrp ps) : (clsR ps ps.length).length ≤ 1000000 ∧ Small3 (clsR ps ps.length) := by
  have h5 := hp.1.2.1
  have h7 := hp.seven
  refine ⟨by unfold clsR; rw [List.length_map]; have := clsTo_len (pks ps) ps.length; omega, fun i hi => ?_⟩
  have h2 : (clsR ps ps.length).getD i [] ∈ clsR ps ps.length := by simp [hi]
  obtain ⟨C, hC, e⟩ := List.mem_map.1 (show _ ∈ (clsTo (pks ps) ps.length).map _ from h2)
  obtain ⟨e0, rfl⟩ := clsTo_sub _ _ C hC
  rw [← e]
  have h3 := clsOf_len (pks ps) e0
  have h4 : (pks ps).length = ps.length := by unfold pks; rw [List.length_map]
  refine ⟨by rw [List.length_map]; omega, fun k hk => ?_⟩
  obtain ⟨y, hy, ey⟩ := List.mem_map.1 (getD_mem hk)
  rw [← ey, List.length_take]
  omega

set_option maxRecDepth 100000 in
set_option maxHeartbeats 4000000 in
theorem classes_law (v : Value) (gs : List (List Int)) (w : World) (h : InPs w v gs) :
    Calls Try.prog 7 #[v] w fun e w' => e = .returned (.bool true) ∧ Below w.heap.size w w' := by
  have HI := Lib.hid h
  obtain ⟨⟨a, cap, rfl, _⟩, _, _⟩ := h
  obtain ⟨m, hm⟩ : ∃ m, m = gs.length := ⟨_, rfl⟩
  rw [← hm] at HI ⊢
  clear hm
  go_enter Try.func7, Try.ntmps7
  go_wp2_with fail
  refine (closed_any _ gs _ HI.out).mono ?_
  rintro e w1 ⟨hb1, ⟨xa, xl, xc, rfl⟩ | ⟨x, ps, rfl, ho, hc, _⟩⟩
  · have HB1 := Lib.hid hb1
    clear hb1
    go_wp2_with fail
    refine (alive_any _).mono ?_
    rintro e w2 ⟨rfl, hb⟩
    have HB := Lib.hid (HB1.out.trans (hb.mono HB1.out.size))
    clear hb
    go_wp2_with fail
    go_ret
    exact ⟨rfl, HB.out⟩
  · have HB1 := Lib.hid hb1
    have HG := Lib.hid hc.2.1
    have HS := Lib.hid ho.sps
    have HCs := Lib.hid (cen_small hc.2.1)
    have HKs := Lib.hid (clsR_small hc.2.1)
    obtain ⟨pa, pc, rfl, _⟩ := ho.sps
    obtain ⟨l, hl⟩ : ∃ l, l = ps.length := ⟨_, rfl⟩
    rw [← hl] at HS ⊢
    obtain ⟨Q, hQ⟩ : ∃ Q, Q = cenL ps := ⟨_, rfl⟩
    obtain ⟨K, hK⟩ : ∃ K, K = clsR ps ps.length := ⟨_, rfl⟩
    have HQ := Lib.hid hQ
    have HK := Lib.hid hK
    rw [← hQ] at HCs
    rw [← hK] at HKs
    clear hb1 hc ho hl hQ hK
    go_wp2_with fail
    refine (refCen_any _ ps _ HS.out HG.out.1).mono ?_
    rintro e w2 ⟨y, rfl, hr, hb⟩
    rw [← HQ.out] at hr
    have HB2 := Lib.hid (HB1.out.trans (hb.mono HB1.out.size))
    have HS2 := Lib.hid (HS.out.below hb)
    have HC2 := Lib.hid (hr.sps hb)
    clear hr hb
    go_wp2_with fail
    refine (refCls_any _ ps _ HS2.out HG.out).mono ?_
    rintro e w3 ⟨z, rfl, hr, hb⟩
    rw [← HK.out] at hr
    have HB3 := Lib.hid (HB2.out.trans (hb.mono HB2.out.size))
    have HS3 := Lib.hid (HS2.out.below hb)
    have HC3 := Lib.hid (HC2.out.below hb)
    have HK3 := Lib.hid hr.spss
    clear hr hb
    go_wp2_with fail
    refine (Center_ok _ ps _ HS3.out HG.out).mono ?_
    rintro e w4 ⟨hb, y2, G, L, L', rfl, g, hm, hp, ha, ho⟩
    rw [cen_list HG.out g hm hp ha, ← HQ.out] at ho
    have HB4 := Lib.hid (HB3.out.trans (hb.mono HB3.out.size))
    have HS4 := Lib.hid (HS3.out.below hb)
    have HC4 := Lib.hid (HC3.out.below hb)
    have HK4 := Lib.hid (HK3.out.below hb)
    have HD4 := Lib.hid ho.sps
    clear hb g hm hp ha ho
    go_wp2_with fail
    refine (Classes_ok _ ps _ HS4.out HG.out).mono ?_
    rintro e w5 ⟨hb, z2, G2, L2, S2, rfl, g, hm, hp, ha, ho⟩
    have he : S2 = pks ps := pks_all HG.out g hm hp ha
    rw [he, show (pks ps).length = ps.length by unfold pks; rw [List.length_map]] at ho
    have ho : QRow w4.heap.size w5 z2 (clsR ps ps.length) := ho
    rw [← HK.out] at ho
    have HB5 := Lib.hid (HB4.out.trans (hb.mono HB4.out.size))
    have HC5 := Lib.hid (HC4.out.below hb)
    have HK5 := Lib.hid (HK4.out.below hb)
    have HD5 := Lib.hid (HD4.out.below hb)
    have HE5 := Lib.hid ho.spss
    clear hb g hm hp ha ho he
    have HSame := Lib.hid (show Calls Try.prog 18 #[y2, y] w5 fun e w' => e = .returned (.bool true) ∧ Below w5.heap.size w5 w' from
      (refSame_any _ _ Q Q w5 HD5.out HC5.out HCs.out.1 HCs.out.2 HCs.out.2).mono fun e w' ⟨r, he, hr, hb⟩ => ⟨by rw [he, hr.2 rfl], hb⟩)
    go_wp2_with fail
    refine HSame.out.mono ?_
    rintro e w6 ⟨rfl, hb⟩
    have HB6 := Lib.hid (HB5.out.trans (hb.mono HB5.out.size))
    have HK6 := Lib.hid (HK5.out.below hb)
    have HE6 := Lib.hid (HE5.out.below hb)
    have HSa := Lib.hid (show Calls Try.prog 31 #[z2, z] w6 fun e w' => e = .returned (.bool true) ∧ Below w6.heap.size w6 w' from
      (refSameAll_any _ _ K K w6 HE6.out HK6.out HKs.out.1 HKs.out.2 HKs.out.2).mono fun e w' ⟨r, he, hr, hb⟩ => ⟨by rw [he, hr.2 rfl], hb⟩)
    clear hb
    go_wp2_with fail
    refine HSa.out.mono ?_
    rintro e w7 ⟨rfl, hb⟩
    have HB7 := Lib.hid (HB6.out.trans (hb.mono HB6.out.size))
    clear hb
    go_wp2_with fail
    refine (alive_any _).mono ?_
    rintro e w8 ⟨rfl, hb⟩
    have HB8 := Lib.hid (HB7.out.trans (hb.mono HB7.out.size))
    clear hb
    go_wp2_with fail
    go_ret
    exact ⟨rfl, HB8.out⟩
end Go.Proofs.Ytjnjhfificpbbaa
