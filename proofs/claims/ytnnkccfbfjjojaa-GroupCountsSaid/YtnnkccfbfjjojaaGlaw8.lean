/- GroupCounts. -/
import Derived.Test.YtnnkccfbfjjojaaGLm
import Derived.Test.YtnnkccfbfjjojaaPrs
namespace Go.Proofs.Ytnnkccfbfjjojaa
open Go Go.RowKit

theorem flat_take {Ks : List (List (List Int))} {k : Nat} (hk : k < Ks.length) : (Ks.take (k + 1)).flatten.length = (Ks.take k).flatten.length + (Ks.getD k []).length := by
  rw [List.take_succ_eq_append_getElem hk, List.flatten_append, List.length_append]
  simp [hk]
theorem flat_le (Ks : List (List (List Int))) (k : Nat) : (Ks.take k).flatten.length ≤ Ks.flatten.length := by
  conv => rhs; rw [← List.take_append_drop k Ks, List.flatten_append, List.length_append]
  exact Nat.le_add_right _ _
theorem flat_all {ps : List (List Int)} (hp : IsGrp ps) : (clsR ps ps.length).flatten.length = ps.length := by
  unfold clsR
  rw [← List.map_flatten, List.length_map]
  have h := (cls_part (pks_cl hp) (pks_nd hp)).length_eq
  rw [pks_len] at h
  exact h
theorem cls_size {ps : List (List Int)} (hp : IsGrp ps) {i : Nat} (hi : i < (clsR ps ps.length).length) : 0 < ((clsR ps ps.length).getD i []).length ∧ ((clsR ps ps.length).getD i []).length ∣ ps.length := by
  obtain ⟨C, hC, e⟩ := List.mem_map.1 (show _ ∈ (clsTo (pks ps) ps.length).map _ from (by simp only [List.getD_eq_getElem?_getD, List.getElem?_eq_getElem hi, Option.getD_some]; exact List.getElem_mem hi : (clsR ps ps.length).getD i [] ∈ clsR ps ps.length))
  obtain ⟨j, hj, rfl⟩ := clsTo_at _ (by rw [pks_len]; exact Nat.le_refl _) C hC
  have he : (pks ps).getD j [] ∈ pks ps := getD_mem (by rw [pks_len]; exact hj)
  rw [← e, List.length_map]
  refine ⟨List.length_pos_of_mem (self_cls (pks_cl hp) he), ?_⟩
  have := cls_dvd (pks_cl hp) (pks_nd hp) he
  rw [pks_len] at this
  exact this
theorem one_cen {ps : List (List Int)} (hp : IsGrp ps) {i : Nat} (hi : i < (clsR ps ps.length).length) (h1 : ((clsR ps ps.length).getD i []).length = 1) : ((clsR ps ps.length).getD i []).getD 0 [] ∈ cenL ps := by
  rw [← ones_cen hp]
  exact List.mem_map.2 ⟨_, List.mem_filter.2 ⟨(by simp only [List.getD_eq_getElem?_getD, List.getElem?_eq_getElem hi, Option.getD_some]; exact List.getElem_mem hi : (clsR ps ps.length).getD i [] ∈ clsR ps ps.length), by simpa using h1⟩, rfl⟩
/-- how many of the first k are in d -/
def inTo (ps d : List (List Int)) (k : Nat) : Nat := ((ps.take k).filter fun p => decide (p ∈ d)).length
theorem in_take {ps d : List (List Int)} {k : Nat} (hk : k < ps.length) : inTo ps d (k + 1) = inTo ps d k + (if ps.getD k [] ∈ d then 1 else 0) := by
  unfold inTo
  rw [List.take_succ_eq_append_getElem hk, List.filter_append, List.length_append]
  rw [show ps.getD k [] = ps[k] by simp [hk]]
  by_cases h : ps[k] ∈ d <;> simp [h]
theorem in_le (ps d : List (List Int)) (k : Nat) : inTo ps d k ≤ ps.length := by
  unfold inTo
  have h1 := List.length_filter_le (fun p => decide (p ∈ d)) (ps.take k)
  have h2 := List.length_take_le' k ps
  omega
theorem grp_nd {ps : List (List Int)} (hp : IsGrp ps) : ps.Nodup := (List.pairwise_map.1 (pks_nd hp)).imp fun h e => h (by rw [e])
theorem der_mem {ps d : List (List Int)} (hp : IsGrp ps) (hd : IsGrp d) (h0 : (d.getD 0 []).length = (ps.getD 0 []).length) (hi : IsDer (pks ps) (pks d)) {p : List Int} (hm : p ∈ ps) : p ∈ d ↔ Gen (comms (pks ps)) (pk7 p) := by
  rw [← hi, pks_mem hd.1 (by rw [h0]; exact (hp.1.mem hm).2)]
theorem der_sub {ps d : List (List Int)} (hp : IsGrp ps) (hd : IsGrp d) (h0 : (d.getD 0 []).length = (ps.getD 0 []).length) (hi : IsDer (pks ps) (pks d)) {p : List Int} (hm : p ∈ d) : p ∈ ps :=
  (pks_mem hp.1 ((hd.1.mem hm).2.trans h0)).1 (hi.le hp.cl (List.mem_map.2 ⟨p, hm, rfl⟩))
theorem in_all {ps d : List (List Int)} (hp : IsGrp ps) (hd : IsGrp d) (h0 : (d.getD 0 []).length = (ps.getD 0 []).length) (hi : IsDer (pks ps) (pks d)) : inTo ps d ps.length = d.length := by
  unfold inTo
  rw [List.take_length]
  refine ((List.perm_ext_iff_of_nodup ((grp_nd hp).filter _) (grp_nd hd)).2 fun x => ?_).length_eq
  rw [List.mem_filter, decide_eq_true_iff]
  exact ⟨fun h => h.2, fun h => ⟨der_sub hp hd h0 hi h, h⟩⟩
theorem prs_in {ps d : List (List Int)} (hp : IsGrp ps) (hd : IsGrp d) (h0 : (d.getD 0 []).length = (ps.getD 0 []).length) (hi : IsDer (pks ps) (pks d)) {z : List Int} (hm : z ∈ ps) {w w' : World} {e : Ending} (h : PrsR ps z w w' e) : ∃ x, e = .returned (.tuple #[x, .int .i64 (if z ∈ d then 0 else 6)]) := by
  have hv := (hp.1.mem hm).1
  rcases h with ⟨h1, _⟩ | ⟨_, h1, _⟩ | ⟨_, _, h1, rfl⟩ | ⟨_, _, h1, x, _, rfl, _⟩
  · rw [hv] at h1; cases h1
  · exact absurd hm h1
  · exact ⟨_, by rw [if_neg fun h => h1 ((der_mem hp hd h0 hi hm).1 h)]⟩
  · exact ⟨_, by rw [if_pos ((der_mem hp hd h0 hi hm).2 h1)]⟩

set_option maxRecDepth 100000 in
set_option maxHeartbeats 8000000 in
theorem counts_law (v : Value) (gs : List (List Int)) (w : World) (h : InPs w v gs) :
    Calls Try.prog 10 #[v] w fun e w' => e = .returned (.bool true) ∧ Below w.heap.size w w' := by
  have HI := Lib.hid h
  obtain ⟨⟨a, cap, rfl, _⟩, _, _⟩ := h
  obtain ⟨m, hm⟩ : ∃ m, m = gs.length := ⟨_, rfl⟩
  rw [← hm] at HI ⊢
  clear hm
  go_enter Try.func10, Try.ntmps10
  go_wp2_with fail
  refine (closed_any _ gs _ HI.out).mono ?_
  rintro e w1 ⟨hb1, ⟨xa, xl, xc, rfl⟩ | ⟨x, ps, rfl, ho, hc, _⟩⟩
  · have HB1 := Lib.hid hb1
    clear hb1
    go_wp2_with fail
    refine (alive_any _).mono ?_
    rintro e w2 ⟨rfl, hb⟩
    have HB := Lib.hid (HB1.out.trans (hb.mono HB1.out.size))
    clear hb
    go_wp2_with fail
    go_ret
    exact ⟨rfl, HB.out⟩
  · have HB1 := Lib.hid hb1
    have HG := Lib.hid hc.2.1
    have HS := Lib.hid ho.sps
    have hCs := cen_small hc.2.1
    have HCs := Lib.hid hCs
    have hfl := flat_all hc.2.1
    have hon := congrArg List.length (ones_cen hc.2.1)
    have hl5 : ps.length ≤ 5040 := hc.2.1.1.2.1
    have hl0 : 0 < ps.length := hc.2.1.1.1
    have HCz := Lib.hid (show ∀ i, i < (clsR ps ps.length).length → _ from fun i hi => cls_size hc.2.1 hi)
    have HOc := Lib.hid (show ∀ i, i < (clsR ps ps.length).length → _ → _ from fun i hi h1 => one_cen hc.2.1 hi h1)
    have hcp : 0 < (clsR ps ps.length).length := by unfold clsR; rw [List.length_map]; exact clsTo_pos _ _ hl0
    have hcl : (clsR ps ps.length).length ≤ ps.length := by unfold clsR; rw [List.length_map]; exact clsTo_len _ _
    obtain ⟨pa, pc, rfl, _⟩ := ho.sps
    obtain ⟨Z, hZ⟩ : ∃ Z, Z = cenL ps := ⟨_, rfl⟩
    obtain ⟨C, hC⟩ : ∃ C, C = clsR ps ps.length := ⟨_, rfl⟩
    have HZq := Lib.hid hZ
    have HCq := Lib.hid hC
    rw [← hZ] at HCs hon HOc
    rw [← hC] at HCz HOc hfl hcp hcl hon
    obtain ⟨l, hl⟩ : ∃ l, l = ps.length := ⟨_, rfl⟩
    rw [← hl] at HS hl5 hl0 hfl hcl HCz ⊢
    have HL := Lib.hid hl
    have HFl := Lib.hid hfl
    have HOn := Lib.hid hon
    clear hb1 hc ho hl hZ hC hfl hon hCs
    by_cases hlc : l ≤ 120
    rotate_left
    · clear HCz HOc hcp hcl HFl HOn
      go_wp2_with fail
      refine (alive_any _).mono ?_
      rintro e w2 ⟨rfl, hb⟩
      have HB := Lib.hid (HB1.out.trans (hb.mono HB1.out.size))
      clear hb
      go_wp2_with fail
      go_ret
      exact ⟨rfl, HB.out⟩
    · go_wp2_with fail
      refine (Classes_ok _ ps _ HS.out HG.out).mono ?_
      rintro e w5 ⟨hb, z2, G2, L2, S2, rfl, g, hm, hp, ha, ho⟩
      have he : S2 = pks ps := pks_all HG.out g hm hp ha
      rw [he, show (pks ps).length = ps.length by unfold pks; rw [List.length_map]] at ho
      have ho : QRow w1.heap.size w5 z2 (clsR ps ps.length) := ho
      rw [← HCq.out] at ho
      obtain ⟨vs, v1, v2, v3⟩ := ho
      obtain ⟨N, hN⟩ : ∃ N, N = C.length := ⟨_, rfl⟩
      rw [← hN] at v1 hcp v3 HCz HOc hcl
      rw [v1] at v2
      obtain ⟨gk, ck, hkv⟩ : ∃ gk ck, z2 = .slice (some ⟨gk, 0, none⟩) N ck := by
        rcases v2.2 with ⟨_, h0⟩ | ⟨gk, ck, _, e, _⟩
        · omega
        · exact ⟨gk, ck, e⟩
      subst hkv
      have HE5 := Lib.hid (show ∀ w', Below w5.heap.size w5 w' → ∀ i, i < N → w'.cell? ⟨gk, i, none⟩ = some (vs.getD i undef) ∧ Sps w' (vs.getD i undef) (C.getD i []) from fun w' hb i hi => ⟨by
        have e1 := row_cell1 (xs := vs) (by rw [v1]; exact v2) (by rw [v1]; exact hi)
        exact (hb.cell (p := ⟨gk, i, none⟩) (World.block_lt_of_cell? w5 _ e1)).trans e1, (v3 i hi).sps.below hb⟩)
      have HNn := Lib.hid hN
      have HB5 := Lib.hid (HB1.out.trans (hb.mono HB1.out.size))
      have HS5 := Lib.hid (HS.out.below hb)
      clear hb g hm hp ha he v1 v2 v3 hN HS HB1
      go_wp2_with fail
      refine (Center_ok _ ps _ HS5.out HG.out).mono ?_
      rintro e w6 ⟨hb, y2, G, L, L', rfl, g, hm, hp, ha, ho⟩
      rw [cen_list HG.out g hm hp ha, ← HZq.out] at ho
      have HB6 := Lib.hid (HB5.out.trans (hb.mono HB5.out.size))
      have HW6 := Lib.hid hb
      have HS6 := Lib.hid (HS5.out.below hb)
      have HC6 := Lib.hid ho.sps
      obtain ⟨ya, yc, rfl, _⟩ := ho.sps
      clear hb g hm hp ha ho HS5 HB5
      go_wp2_with fail
      refine (Derived_ok _ ps _ HS6.out HG.out).mono ?_
      rintro e w7 ⟨hb, d2, d, rfl, ho, d1, d0, di⟩
      have HB7 := Lib.hid (HB6.out.trans (hb.mono HB6.out.size))
      have HW7 := Lib.hid (HW6.out.trans (hb.mono HW6.out.size))
      have HS7 := Lib.hid (HS6.out.below hb)
      have HC7 := Lib.hid (HC6.out.below hb)
      have HD7 := Lib.hid ho.sps
      have HDg := Lib.hid (show IsGrp d ∧ _ ∧ _ from ⟨d1, d0, di⟩)
      obtain ⟨da, dc, rfl, _⟩ := ho.sps
      clear hb ho d1 d0 di HS6 HC6 HB6 HW6
      obtain ⟨zn, hzn⟩ : ∃ zn, zn = Z.length := ⟨_, rfl⟩
      obtain ⟨dn, hdn⟩ : ∃ dn, dn = d.length := ⟨_, rfl⟩
      have HZn := Lib.hid hzn
      have HDn := Lib.hid hdn
      rw [← hzn] at HC7 HOn ⊢
      rw [← hdn] at HD7 ⊢
      clear hzn hdn
      go_wp2_with fail
      have HX0 := Lib.hid (Below.refl w7.heap.size w7)
      go_loopw [11, 12, 13] (fun av sv iv wr => ∃ i s a : Nat, iv = .int .i64 i ∧ sv = .int .i64 s ∧ av = .int .i64 a ∧ i ≤ N ∧ Hid (a = (C.take i).flatten.length) ∧ Hid (s = (ones (C.take i)).length) ∧ a ≤ l ∧ s ≤ i ∧ Hid (Below w7.heap.size w7 wr)) (fun _ _ iv _ => N - (intOf iv).toNat)
      case atStart => exact ⟨0, 0, 0, rfl, rfl, rfl, Nat.zero_le _, Lib.hid (by simp), Lib.hid (by simp [ones]), Nat.zero_le _, Nat.zero_le _, HX0⟩
      case round =>
        clear HX0
        obtain ⟨i, s, a, rfl, rfl, rfl, hi, HA, HSg, hal, hsi, HB⟩ := hrel
        by_cases hli : i < N
        · obtain ⟨e1, e2⟩ := HE5.out wr (HW7.out.trans (HB.out.mono HW7.out.size)) i hli
          have hst := ones_take (Ks := C) (k := i) (by rw [← HNn.out]; exact hli)
          have hft := flat_take (Ks := C) (k := i) (by rw [← HNn.out]; exact hli)
          have hfe := flat_le C (i + 1)
          have hcz := HCz.out i hli
          obtain ⟨x, hx⟩ : ∃ x, x = vs.getD i undef := ⟨_, rfl⟩
          obtain ⟨D, hD⟩ : ∃ D, D = C.getD i [] := ⟨_, rfl⟩
          rw [← hx] at e1 e2
          rw [← hD] at e2 hst hft hcz
          obtain ⟨ca, cc, rfl, e2⟩ := e2
          obtain ⟨cn, hcn⟩ : ∃ cn, cn = D.length := ⟨_, rfl⟩
          rw [← hcn] at e1 hst hft hcz
          rw [HFl.out, hft, ← HA.out] at hfe
          have hcd := Int.emod_eq_zero_of_dvd (Int.natCast_dvd_natCast.2 hcz.2)
          have hc0 : ((cn : Int) == 0) = false := beq_eq_false_iff_ne.2 (by omega)
          have hcp2 := hcz.1
          have ha2 : a + cn ≤ l := by omega
          have HA2 := Lib.hid (show a + cn = (C.take (i + 1)).flatten.length by rw [hft, HA.out])
          obtain ⟨z, hz⟩ : ∃ z, z = decide (cn = 1) := ⟨_, rfl⟩
          have hz1 : ((cn : Int) == 1) = z := by
            rw [hz]
            by_cases e : cn = 1
            · subst e; rfl
            · rw [decide_eq_false e]; exact beq_eq_false_iff_ne.2 (by omega)
          clear hft hfe hcz
          cases z with
          | false =>
            have hne : ¬ cn = 1 := of_decide_eq_false hz.symm
            rw [if_neg hne, List.append_nil] at hst
            have HS2 := Lib.hid (show s = (ones (C.take (i + 1))).length by rw [hst]; exact HSg.out)
            clear hst hx hD hcn e2 hne hz
            go_wp2_with fail
            go_roundw
            case rel => exact ⟨i + 1, s, a + cn, by go_num, rfl, by go_num, by omega, HA2, HS2, ha2, by omega, HB⟩
            case measure => simp [intOf]; omega
          | true =>
            have hy : cn = 1 := of_decide_eq_true hz.symm
            rw [if_pos hy] at hst
            have HS2 := Lib.hid (show s + 1 = (ones (C.take (i + 1))).length by rw [hst, List.length_append, ← HSg.out]; rfl)
            rcases e2 with e2 | ⟨cb, co, rfl, e2⟩
            · rw [e2] at hcn; simp at hcn; omega
            obtain ⟨y, f1, f2⟩ := e2 0 (by omega)
            rw [Nat.add_zero] at f1
            have hoc := HOc.out i hli (by rw [← hD, ← hcn]; exact hy)
            rw [← hD] at hoc
            obtain ⟨P0, hP0⟩ : ∃ P0, P0 = D.getD 0 [] := ⟨_, rfl⟩
            rw [← hP0] at f2 hoc
            have HIn := Lib.hid (show Calls Try.prog 37 #[.slice ya zn yc, y] wr fun e w' => e = .returned (.bool true) ∧ Below wr.heap.size wr w' from
              (refIn_any _ _ Z P0 wr (HC7.out.below HB.out) f2 HCs.out.2 (by
                obtain ⟨j, hj, e⟩ := List.getElem_of_mem hoc
                have := HCs.out.2 j (by omega)
                rwa [show Z.getD j [] = P0 by simp [hj, e]] at this) HCs.out.1).mono fun e w' ⟨r, he, hr, hb⟩ => ⟨by rw [he, hr.2 hoc], hb⟩)
            subst hy
            clear hst hx hD hcn e2 hz hP0 f2 hoc
            go_wp2_with fail
            refine HIn.out.mono ?_
            rintro e w8 ⟨rfl, hb⟩
            have HB8 := Lib.hid (HB.out.trans (hb.mono HB.out.size))
            clear hb
            go_wp2_with fail
            go_roundw
            case rel => exact ⟨i + 1, s + 1, a + 1, by go_num, by go_num, by go_num, by omega, HA2, HS2, ha2, by omega, HB8⟩
            case measure => simp [intOf]; omega
        · have hi' : i = N := by omega
          have hal2 : a = l := by rw [HA.out, hi', HNn.out, List.take_length, HFl.out]
          have hsz : s = zn := by rw [HSg.out, hi', HNn.out, List.take_length, HOn.out]
          subst hal2
          subst hsz
          have hin := in_all HG.out HDg.out.1 HDg.out.2.1 HDg.out.2.2
          have HIa := Lib.hid hin
          have hW := HW7.out.trans (HB.out.mono HW7.out.size)
          have HBr := Lib.hid (HB7.out.trans (HB.out.mono HB7.out.size))
          have HSr := Lib.hid (HS7.out.below HB.out)
          have HDr := Lib.hid (HD7.out.below HB.out)
          clear hin hi' hW
          obtain ⟨_, _, e, hU⟩ := HSr.out
          injection e with q1 q2 q3
          subst q1
          rcases hU with hU | ⟨bU, oU, rfl, hU⟩
          · have := HL.out
            rw [hU] at this
            simp at this; omega
          clear q2 q3
          have HU := Lib.hid hU
          clear hU
          go_wp2_with fail
          obtain ⟨wa, hwa⟩ : ∃ wa, wa = wr := ⟨_, rfl⟩
          subst hwa
          have HX0 := Lib.hid (Below.refl wa.heap.size wa)
          go_loopw [14, 15] (fun kv iv wr => ∃ i k : Nat, iv = .int .i64 i ∧ kv = .int .i64 k ∧ i ≤ a ∧ Hid (k = inTo ps d i) ∧ k ≤ a ∧ Hid (Below wa.heap.size wa wr)) (fun _ iv _ => a - (intOf iv).toNat)
          case atStart => exact ⟨0, 0, rfl, rfl, Nat.zero_le _, Lib.hid (by simp [inTo]), Nat.zero_le _, HX0⟩
          case round =>
            clear HX0
            obtain ⟨i, k, rfl, rfl, hi, HK, hk, HQ⟩ := hrel
            by_cases hli : i < a
            · obtain ⟨y, f1, f2⟩ := HU.out i (by rw [← HL.out]; exact hli)
              have f3 := (HQ.out.cell (p := ⟨bU, oU + i, none⟩) (World.block_lt_of_cell? wa _ f1)).trans f1
              have hmem : ps.getD i [] ∈ ps := getD_mem (by rw [← HL.out]; exact hli)
              have hit := in_take (ps := ps) (d := d) (k := i) (by rw [← HL.out]; exact hli)
              have hil := in_le ps d (i + 1)
              rw [← HL.out] at hil
              have h7 := HG.out.seven
              have hpl : (ps.getD i []).length ≤ 1000000 := by rw [(HG.out.1.mem hmem).2]; omega
              obtain ⟨P0, hP0⟩ : ∃ P0, P0 = ps.getD i [] := ⟨_, rfl⟩
              rw [← hP0] at f2 hmem hit hpl
              have f4 := f2.below HQ.out
              have HPr := Lib.hid (Pairs_ok (.slice (some ⟨bU, oU, none⟩) a pc) y ps P0 wr (HSr.out.below HQ.out) HG.out f4 hpl)
              have HPi := Lib.hid (show ∀ w' e, PrsR ps P0 wr w' e → ∃ x, e = .returned (.tuple #[x, .int .i64 (if P0 ∈ d then 0 else 6)]) from fun w' e hr => prs_in HG.out HDg.out.1 HDg.out.2.1 HDg.out.2.2 hmem hr)
              have HIn := Lib.hid (show ∀ w', Below wr.heap.size wr w' → Calls Try.prog 37 #[.slice da dn dc, y] w' fun e w'' => ∃ r, e = .returned (.bool r) ∧ Says r (P0 ∈ d) ∧ Below w'.heap.size w' w'' from fun w' hb =>
                refIn_any _ _ d P0 w' ((HDr.out.below HQ.out).below hb) (f4.below hb) (fun j hj => by
                  have := HDg.out.1.seven
                  rw [(HDg.out.1.1.mem (getD_mem hj)).2]; omega) hpl (by have := HDg.out.1.1.2.1; omega))
              have HC := Lib.hid (show ∀ w', Below wr.heap.size wr w' → w'.cell? ⟨bU, oU + i, none⟩ = some y from fun w' hb => (hb.cell (p := ⟨bU, oU + i, none⟩) (World.block_lt_of_cell? wr _ f3)).trans f3)
              have HIt := Lib.hid hit
              clear f1 f2 f4 hmem hP0 hpl hit h7
              go_wp2_with fail
              refine HPr.out.mono ?_
              rintro e w8 ⟨hb, hr⟩
              obtain ⟨x, rfl⟩ := HPi.out _ _ hr
              clear hr
              have f5 := HC.out w8 hb
              have HIn2 := Lib.hid (HIn.out w8 hb)
              have HB8 := Lib.hid (HQ.out.trans (hb.mono HQ.out.size))
              clear hb f3
              obtain ⟨t, ht⟩ : ∃ t : Int, t = (if P0 ∈ d then 0 else 6) := ⟨_, rfl⟩
              rw [← ht]
              have HT := Lib.hid ht
              clear ht
              go_wp2_with fail
              refine HIn2.out.mono ?_
              rintro e w9 ⟨r, rfl, hs, hb⟩
              have HB9 := Lib.hid (HB8.out.trans (hb.mono HB8.out.size))
              have hit := HIt.out
              have ht := HT.out
              clear hb f5
              by_cases hin : P0 ∈ d
              · have hr := hs.2 hin
                rw [if_pos hin] at hit ht
                have HK2 := Lib.hid (show k + 1 = inTo ps d (i + 1) by rw [hit, HK.out])
                have hk2 : k + 1 ≤ a := by rw [HK2.out]; exact hil
                subst hr ht
                clear hit hs hin hil
                go_wp2_with fail
                go_roundw
                case rel => exact ⟨i + 1, k + 1, by go_num, by go_num, by omega, HK2, hk2, HB9⟩
                case measure => simp [intOf]; omega
              · have hr : r = false := by
                  cases r
                  · rfl
                  · exact absurd (hs.1 rfl) hin
                rw [if_neg hin] at hit ht
                have HK2 := Lib.hid (show k = inTo ps d (i + 1) by rw [hit, HK.out]; rfl)
                subst hr ht
                clear hit hs hin hil
                go_wp2_with fail
                go_roundw
                case rel => exact ⟨i + 1, k, by go_num, rfl, by omega, HK2, hk, HB9⟩
                case measure => simp [intOf]; omega
            · have hi' : i = a := by omega
              have hkd : k = dn := by rw [HK.out, hi', HL.out, HIa.out, HDn.out]
              subst hkd
              have HBz := Lib.hid (HBr.out.trans (HQ.out.mono HBr.out.size))
              clear hi'
              go_wp2_with fail
              refine (alive_any _).mono ?_
              rintro e wz ⟨rfl, hb⟩
              have HBf := Lib.hid (HBz.out.trans (hb.mono HBz.out.size))
              clear hb
              go_wp2_with fail
              go_ret
              exact ⟨rfl, HBf.out⟩
end Go.Proofs.Ytnnkccfbfjjojaa
