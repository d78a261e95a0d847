/- GroupLarge. -/
import Derived.Test.YtnnkccfbfjjojaaGLm
import Derived.Test.YtnnkccfbfjjojaaNCB
namespace Go.Proofs.Ytnnkccfbfjjojaa
open Go Go.RowKit Go.Deep

set_option maxRecDepth 100000 in
set_option maxHeartbeats 8000000 in
theorem large_law (v : Value) (gs : List (List Int)) (w : World) (h : InPs w v gs) :
    Calls Try.prog 11 #[v] w fun e w' => e = .returned (.bool true) ∧ Below w.heap.size w w' := by
  obtain ⟨i0, hi0, hz0, hz1, hz2⟩ := info_parts infoPs
  obtain ⟨i1, hq0, hq1, hq2, hq3⟩ := info_parts infoPerm3
  have HI := Lib.hid h
  obtain ⟨⟨a, cap, rfl, _⟩, _, _⟩ := h
  obtain ⟨m, hm⟩ : ∃ m, m = gs.length := ⟨_, rfl⟩
  have HM := Lib.hid hm
  rw [← hm] at HI ⊢
  clear hm
  go_enter Try.func11, Try.ntmps11
  go_wp2_with fail
  refine (few_any _ gs 30 _ HI.out (by decide)).mono ?_
  rintro e w1 ⟨r, rfl, hs, rfl⟩
  have HS := Lib.hid hs
  clear hs
  cases r with
  | false =>
    clear HS
    go_wp2_with fail
    refine (alive_any _).mono ?_
    rintro e w2 ⟨rfl, hb⟩
    have HB := Lib.hid hb
    clear hb
    go_wp2_with fail
    go_ret
    exact ⟨rfl, HB.out⟩
  | true =>
    have HF := Lib.hid (HS.out.1 rfl)
    have HX := Lib.hid (show ∀ i, i < gs.length → (gs.getD i []).length ≤ 1000000 from fun i hi => Nat.le_trans (HF.out.2 i hi) (by decide))
    clear HS
    go_wp2_with fail
    refine (refGens_any _ gs _ HI.out.1 HX.out).mono ?_
    rintro e w2 ⟨r, rfl, hs, hb2⟩
    have HS := Lib.hid hs
    have HB2 := Lib.hid hb2
    have HI2 := Lib.hid (HI.out.1.below hb2)
    clear hs hb2
    cases r with
    | false =>
      clear HS
      go_wp2_with fail
      refine (alive_any _).mono ?_
      rintro e w4 ⟨rfl, hb4⟩
      have HB4 := Lib.hid (HB2.out.trans (hb4.mono HB2.out.size))
      clear hb4
      go_wp2_with fail
      go_ret
      exact ⟨rfl, HB4.out⟩
    | true =>
      have HG := Lib.hid (HS.out.1 rfl)
      clear HS
      go_wp2_with fail
      refine (refClose_any _ gs _ HI2.out HG.out).mono ?_
      rintro e w3 ⟨x, s, rfl, ho, hmem, hb3⟩
      have HB3 := Lib.hid (HB2.out.trans (hb3.mono HB2.out.size))
      have hv0 := (validL_iff _).1 (HG.out.2.2 0 HG.out.1).1
      obtain ⟨ps, hps⟩ : ∃ ps, ps = rl (gs.getD 0 []).length s := ⟨_, rfl⟩
      have hL : Lists (gs.getD 0 []).length ps (Gen (pks gs)) := ⟨s, hps, hmem⟩
      rw [← hps] at ho
      have hgr := hL.grp hv0.1 hv0.2.1 HG.out.els (fun a ha => gen_pk HG.out ha)
      have HGr := Lib.hid hgr.1
      have hl5 : ps.length ≤ 5040 := hgr.1.1.2.1
      have HSp := Lib.hid ho.sps
      obtain ⟨xa, xc, rfl, _⟩ := ho.sps
      obtain ⟨l, hl⟩ : ∃ l, l = ps.length := ⟨_, rfl⟩
      have HLq := Lib.hid hl
      rw [← hl] at HSp hl5 ⊢
      clear ho hmem hb3 hv0 hps hL hgr hl
      go_wp2_with fail
      have B0 := Lib.hid ((Below.refl w3.heap.size w3).alloc (Nat.le_refl _) (.cells #[.slice xa l xc] 22))
      have R0 := Lib.hid (show VRow w3.heap.size (w3.alloc (.cells #[.slice xa l xc] 22)) (.slice (some ⟨w3.heap.size, 0, none⟩) 1 1) [.slice xa l xc] from
        ⟨rfl, .inr ⟨w3.heap.size, 1, _, rfl, Nat.le_refl _, Blk.new w3 _ _, Nat.le_refl _, by unfold maxLen; omega, rfl, rfl⟩⟩)
      generalize w3.alloc (.cells #[.slice xa l xc] 22) = w4 at *
      go_loopg [4] l (fun K dv wr => ∃ q qs xs, Hid (K = q.length) ∧ Hid (VRow w3.heap.size wr dv xs) ∧ Hid (xs.length = (qs ++ [q]).length) ∧ Hid (∀ i, i < (qs ++ [q]).length → ElS w3 wr (xs.getD i undef) ((qs ++ [q]).getD i [])) ∧ Hid (ChR (ps.getD 0 []).length (qs ++ [q])) ∧ Hid ((qs ++ [q]).head? = some ps) ∧ Hid (IsGrp q ∧ (q.getD 0 []).length = (ps.getD 0 []).length) ∧ Hid (qs.length + q.length ≤ 5040) ∧ Hid (Below w3.heap.size w3 wr))
      case atStart => exact ⟨ps, [], _, Lib.hid HLq.out, R0, Lib.hid rfl, Lib.hid (fun i hi => by
        have e : i = 0 := by simpa using hi
        subst e
        exact .inl HSp.out), Lib.hid trivial, Lib.hid rfl, Lib.hid ⟨HGr.out, rfl⟩, Lib.hid (by simp; rw [← HLq.out]; exact hl5), B0⟩
      case round =>
        clear R0 B0
        obtain ⟨q, qs, xs, HKq, HR, HL, HA, HC, HHd, HQ, HN, HB⟩ := hrel
        obtain ⟨k, hk⟩ : ∃ k, k = xs.length := ⟨_, rfl⟩
        have hk0 : 0 < k := by rw [hk, HL.out]; simp
        obtain ⟨gd, cd, hdv⟩ : ∃ gd cd, u4 = .slice (some ⟨gd, 0, none⟩) k cd := by
          rcases HR.out.2 with ⟨_, h0⟩ | ⟨gd, cd, _, e, _⟩
          · omega
          · exact ⟨gd, cd, by rw [e, ← hk]⟩
        subst hdv
        have hkb : k ≤ 5041 := by
          have h1 := HL.out
          have h2 := HN.out
          rw [List.length_append] at h1
          have h3 : 0 < q.length := HQ.out.1.1.1
          simp at h1; omega
        have hk1 : ((k : Int) - 1) = ((k - 1 : Nat) : Int) := by omega
        have hql : qs.length = k - 1 := by
          have h1 := HL.out
          rw [List.length_append] at h1
          simp at h1; omega
        have hEl := HA.out (k - 1) (by simp; omega)
        rw [show (qs ++ [q]).getD (k - 1) [] = q by rw [← hql]; simp] at hEl
        have hc := row_cell1 HR.out (i := k - 1) (by omega)
        obtain ⟨y, hy⟩ : ∃ y, y = xs.getD (k - 1) undef := ⟨_, rfl⟩
        rw [← hy] at hEl hc
        have HY := Lib.hid (hEl.sps HB.out)
        obtain ⟨ya, yc, rfl, _⟩ := HY.out
        obtain ⟨lq, hlq⟩ : ∃ lq, lq = q.length := ⟨_, rfl⟩
        rw [← hlq] at HY hc
        have HCell := Lib.hid (show ∀ w', Below wr.heap.size wr w' → w'.cell? ⟨gd, k - 1, none⟩ = some (.slice ya lq yc) from fun w' h => (h.cell (p := ⟨gd, k - 1, none⟩) (World.block_lt_of_cell? wr _ hc)).trans hc)
        have HLQ := Lib.hid hlq
        have HKk := Lib.hid hk
        have HQl := Lib.hid hql
        clear hy hEl hlq hk hql
        go_wp2_with fail
        refine (refFew_any _ q _ HY.out HQ.out.1).mono ?_
        rintro e w5 ⟨fv, fs, P, rfl, hr, hf, hb5⟩
        have HFv := Lib.hid (hr.sps hb5)
        have HFf := Lib.hid (hf.few HQ.out.1)
        have HFe := Lib.hid (hf.end HQ.out.1)
        have HFs := Lib.hid hf.sub
        have HFo := Lib.hid hf.one
        have HB5 := Lib.hid hb5
        obtain ⟨fa, fc, rfl, _⟩ := hr.sps hb5
        clear hr hf hb5
        go_wp2_with fail
        refine (refDBy_any _ q fs _ HFv.out HQ.out.1 HFs.out HFo.out HFf.out HFe.out).mono ?_
        rintro e w6 ⟨dv, d, rfl, ho, hd, hb6⟩
        have hbb := HB5.out.trans (hb6.mono HB5.out.size)
        have c6 := HCell.out w6 hbb
        have hzz := HB.out.size
        rw [HQ.out.2] at hd
        obtain ⟨g1, g2, g3, g4, g5⟩ := der_grp HQ.out.1 HQ.out.2 hd
        rw [← HLQ.out] at g4
        have HO := Lib.hid (ho.mono (Nat.le_trans hzz HB5.out.size))
        have HD := Lib.hid hd
        have HGd := Lib.hid (show IsGrp d ∧ (d.getD 0 []).length = (ps.getD 0 []).length from ⟨g1, g2⟩)
        have HB2 := Lib.hid (HB.out.trans (hbb.mono hzz))
        have HA2 := Lib.hid (show ∀ i, i < (qs ++ [q]).length → ElS w3 w6 (xs.getD i undef) ((qs ++ [q]).getD i []) from fun i hi => (HA.out i hi).below hbb)
        have HR2 := Lib.hid (show VRow w3.heap.size w6 _ xs from row_below HR.out hbb)
        obtain ⟨da, dc, rfl, _⟩ := ho.sps
        obtain ⟨ld, hld⟩ : ∃ ld, ld = d.length := ⟨_, rfl⟩
        have HLd := Lib.hid hld
        rw [← hld] at g4 HO ⊢
        clear ho hd hb6 hbb hld g1 g2 g3 g5 HA HR HB HB5 hc HCell HFv HFf HFe HFs HFo HY hzz
        by_cases heq : ld = lq
        · have HSr := Lib.hid (show SerR ps (qs ++ [q]) from ⟨qs, q, rfl, HC.out, HHd.out, HQ.out.1, HQ.out.2, d, HD.out, by rw [← HLd.out, ← HLQ.out]; exact heq⟩)
          have HUs := Lib.hid (show Spss w6 (.slice (some ⟨gd, 0, none⟩) k cd) (qs ++ [q]) from VRow.spss HR2.out HL.out fun i hi => (HA2.out i hi).sps HB2.out)
          have HS6 := Lib.hid (HSp.out.below HB2.out)
          have HB7 := Lib.hid (HB3.out.trans (HB2.out.mono HB3.out.size))
          obtain ⟨Q, hQ⟩ : ∃ Q, Q = qs ++ [q] := ⟨_, rfl⟩
          have HLk := Lib.hid (show k = Q.length by rw [hQ, HKk.out, HL.out])
          have HLz := Lib.hid (show Q.getD (k - 1) [] = q by rw [hQ, ← HQl.out]; simp)
          rw [← hQ] at HSr HUs
          clear hQ HO HD HGd HA2 HR2 HB2 HL HC HHd HN HQl HKk
          go_wp2_with fail
          refine (refFew_any _ ps _ HS6.out HGr.out).mono ?_
          rintro e w7 ⟨fv2, fs2, P2, rfl, hr, hf, hb7⟩
          have HFv := Lib.hid (hr.sps hb7)
          have HFf := Lib.hid (hf.few HGr.out)
          have HFe := Lib.hid (hf.end HGr.out)
          have HFs := Lib.hid hf.sub
          have HFo := Lib.hid hf.one
          have HS7 := Lib.hid (HS6.out.below hb7)
          have HU7 := Lib.hid (HUs.out.below hb7)
          have HB8 := Lib.hid (HB7.out.trans (hb7.mono HB7.out.size))
          obtain ⟨fa2, fc2, rfl, _⟩ := hr.sps hb7
          clear hr hf hb7 HS6 HUs HB7 c6
          go_wp2_with fail
          refine (refCBy_any _ _ ps fs2 _ HS7.out HFv.out HGr.out HFs.out HFo.out HFf.out HFe.out).mono ?_
          rintro e w8 ⟨kv, rfl, hkr, hb8⟩
          have HS8 := Lib.hid (HS7.out.below hb8)
          have HU8 := Lib.hid (HU7.out.below hb8)
          have HB9 := Lib.hid (HB8.out.trans (hb8.mono HB8.out.size))
          have HK8 := Lib.hid hkr.spss
          have HKs := Lib.hid (clsR_small HGr.out)
          have hcen := ones_cen HGr.out
          have hcl : (clsR ps ps.length).length ≤ ps.length := by unfold clsR; rw [List.length_map]; exact clsTo_len _ _
          have hcp : 0 < (clsR ps ps.length).length := by unfold clsR; rw [List.length_map]; exact clsTo_pos _ _ (by rw [← HLq.out]; rw [HLq.out]; exact HGr.out.1.1)
          obtain ⟨C, hC⟩ : ∃ C, C = clsR ps ps.length := ⟨_, rfl⟩
          rw [← hC] at hkr HK8 HKs hcen hcl hcp
          have HCq := Lib.hid hC
          have HCen := Lib.hid hcen
          obtain ⟨vs, v1, v2, v3⟩ := hkr
          obtain ⟨N, hN⟩ : ∃ N, N = C.length := ⟨_, rfl⟩
          rw [← hN] at v1 hcl hcp v3
          rw [v1] at v2
          obtain ⟨gk, ck, hkv⟩ : ∃ gk ck, kv = .slice (some ⟨gk, 0, none⟩) N ck := by
            rcases v2.2 with ⟨_, h0⟩ | ⟨gk, ck, _, e, _⟩
            · omega
            · exact ⟨gk, ck, e⟩
          subst hkv
          rw [← HLq.out] at hcl
          have hNb : N ≤ 5040 := Nat.le_trans hcl hl5
          have HE8 := Lib.hid (show ∀ i, i < N → w8.cell? ⟨gk, i, none⟩ = some (vs.getD i undef) ∧ Sps w8 (vs.getD i undef) (C.getD i []) from fun i hi => ⟨row_cell1 (by rw [v1]; exact v2) (by rw [v1]; exact hi), (v3 i hi).sps⟩)
          have HNn := Lib.hid hN
          clear hb8 hcen v1 v2 v3 hC hN hcl HFv HFf HFe HFs HFo HS7 HU7 HB8
          go_wp2_with fail
          have HR0 := Lib.hid (show RowS w8.heap.size w8 w8 (.slice none 0 0) (ones (C.take 0)) from ⟨[], by simp [ones], by simp only [List.take_zero]; exact World.ownsRow_nil _ _ _ _, fun i hi => by simp [ones] at hi⟩)
          have HB0 := Lib.hid (Below.refl w8.heap.size w8)
          go_loopw [7, 8] (fun cv iv wr => ∃ i : Nat, iv = .int .i64 i ∧ i ≤ N ∧ Hid (RowS w8.heap.size w8 wr cv (ones (C.take i))) ∧ Hid (Below w8.heap.size w8 wr)) (fun _ iv _ => N - (intOf iv).toNat)
          case atStart => exact ⟨0, rfl, Nat.zero_le _, HR0, HB0⟩
          case round =>
            clear HR0 HB0
            obtain ⟨i, rfl, hi, HR, HB⟩ := hrel
            by_cases hli : i < N
            · obtain ⟨e1, e2⟩ := HE8.out i hli
              have hst := ones_take (Ks := C) (k := i) (by rw [← HNn.out]; exact hli)
              have hol : (ones (C.take i)).length ≤ 5040 := by
                unfold ones
                rw [List.length_map]
                have h1 := List.length_filter_le (fun C : List (List Int) => decide (C.length = 1)) (C.take i)
                have h2 := List.length_take_le i C
                omega
              obtain ⟨x, hx⟩ : ∃ x, x = vs.getD i undef := ⟨_, rfl⟩
              obtain ⟨D, hD⟩ : ∃ D, D = C.getD i [] := ⟨_, rfl⟩
              rw [← hx] at e1 e2
              rw [← hD] at e2 hst
              obtain ⟨ca, cc, rfl, e2⟩ := e2
              obtain ⟨cn, hcn⟩ : ∃ cn, cn = D.length := ⟨_, rfl⟩
              rw [← hcn] at e1 hst
              have e3 := (HB.out.cell (p := ⟨gk, i, none⟩) (World.block_lt_of_cell? w8 _ e1)).trans e1
              obtain ⟨z, hz⟩ : ∃ z, z = decide (cn = 1) := ⟨_, rfl⟩
              have hz1 : ((cn : Int) == 1) = z := by
                rw [hz]
                by_cases e : cn = 1
                · subst e; rfl
                · rw [decide_eq_false e]; exact beq_eq_false_iff_ne.2 (by omega)
              have HZ := Lib.hid hz
              cases z with
              | false =>
                have hne : ¬ cn = 1 := of_decide_eq_false hz.symm
                rw [if_neg hne, List.append_nil] at hst
                have HR2 := Lib.hid (show RowS w8.heap.size w8 wr _ (ones (C.take (i + 1))) by rw [hst]; exact HR.out)
                clear hst hx hD hcn e1 e2 HR hne hz
                go_wp2_with fail
                go_roundw
                case rel => exact ⟨i + 1, by go_num, by omega, HR2, HB⟩
                case measure => simp [intOf]; omega
              | true =>
                have hy : cn = 1 := of_decide_eq_true hz.symm
                rw [if_pos hy] at hst
                rcases e2 with e2 | ⟨cb, co, rfl, e2⟩
                · rw [e2] at hcn; simp at hcn; omega
                obtain ⟨y, f1, f2⟩ := e2 0 (by omega)
                rw [Nat.add_zero] at f1
                obtain ⟨P0, hP0⟩ : ∃ P0, P0 = D.getD 0 [] := ⟨_, rfl⟩
                rw [← hP0] at f2 hst
                have HF2 := Lib.hid f2
                obtain ⟨ya3, yc3, rfl, _⟩ := f2
                obtain ⟨pl, hpl⟩ : ∃ pl, pl = P0.length := ⟨_, rfl⟩
                rw [← hpl] at f1 HF2
                have f3 := (HB.out.cell (p := ⟨cb, co, none⟩) (World.block_lt_of_cell? w8 _ f1)).trans f1
                subst hy
                obtain ⟨O, hO⟩ : ∃ O, O = ones (C.take i) := ⟨_, rfl⟩
                rw [← hO] at HR hst hol
                obtain ⟨os, o1, o2, o3⟩ := HR.out
                have hsw := HB.out.size
                have HSt := Lib.hid hst
                have O1 := Lib.hid o1
                have O3 := Lib.hid o3
                obtain ⟨on, hon⟩ : ∃ on, on = O.length := ⟨_, rfl⟩
                rw [← hon] at hol o2
                have HOn := Lib.hid hon
                clear hst hx hD hcn e1 e2 hz hP0 hpl f1 hO o1 o3 hon HR
                go_wp2_with (at_builtin; go_loud (refine wpList_append_own _ rfl _ _ 22 rfl w8.heap.size 32 i1 (.slice none 0 0) 1 24 Try.underlying22 hq0 hq1 hq2 hq3 rfl (by decide) u7 on os rfl (o2.alloc _) ⟨wr.heap.size, 0, none⟩ 1 1 [.slice ya3 pl yc3] rfl rfl (cell_one_new _ _ _) (by simp [Value.oneCell']) (by unfold maxLen; omega) (by omega) (by simp; omega) ?_; intro v' wz hown' hgrow _))
                have R2 := Lib.hid (show RowS w8.heap.size w8 wz v' (ones (C.take (i + 1))) from by
                  rw [HSt.out]
                  exact RowS.push O1.out O3.out HF2.out (by rw [← HOn.out]; exact hown') hgrow)
                have B2 := Lib.hid ((HB.out.alloc hsw (.cells #[.slice ya3 pl yc3] 32)).grown hgrow (by simp; omega) (fun r e => (o2.lt r e).1))
                clear hown' hgrow o2
                go_wp2
                go_roundw
                case rel => exact ⟨i + 1, by go_num, by omega, R2, B2⟩
                case measure => simp [intOf]; omega
            · have hke : i = C.length := by rw [← HNn.out]; omega
              obtain ⟨Z, hZ⟩ : ∃ Z, Z = cenL ps := ⟨_, rfl⟩
              have HZc := Lib.hid hZ
              have HCs := Lib.hid (cen_small HGr.out)
              rw [← hZ] at HCs
              have HC1 := Lib.hid (show Sps wr _ Z from by
                have h := HR.out.sps HB.out
                rw [hke, List.take_length, HCen.out, ← hZ] at h
                exact h)
              obtain ⟨cna, cnc, hue, _⟩ := HC1.out
              subst hue
              obtain ⟨zn, hzn⟩ : ∃ zn, zn = Z.length := ⟨_, rfl⟩
              rw [← hzn] at HC1 ⊢
              have HS1 := Lib.hid (HS8.out.below HB.out)
              have HU1 := Lib.hid (HU8.out.below HB.out)
              have HK1 := Lib.hid (HK8.out.below HB.out)
              have HB1 := Lib.hid (HB9.out.trans (HB.out.mono HB9.out.size))
              clear hke hZ hzn HR HB HS8 HU8 HK8 HB9 HE8
              go_wp2_with fail
              refine (Derived_ok _ ps _ HS1.out HGr.out).mono ?_
              rintro e wA ⟨hb, y2, d2, rfl, ho, hd1, hd2, hd3⟩
              have HDe := Lib.hid (ser_second HGr.out HSr.out hd1 hd2 hd3)
              have HDs := Lib.hid hd1.small1
              have HDA := Lib.hid ho.sps
              have HSA := Lib.hid (HS1.out.below hb)
              have HUA := Lib.hid (HU1.out.below hb)
              have HKA := Lib.hid (HK1.out.below hb)
              have HCA := Lib.hid (HC1.out.below hb)
              have HBA := Lib.hid (HB1.out.trans (hb.mono HB1.out.size))
              obtain ⟨ya2, yc2, rfl, _⟩ := ho.sps
              obtain ⟨ld2, hld2⟩ : ∃ ld2, ld2 = d2.length := ⟨_, rfl⟩
              rw [← hld2] at HDA ⊢
              clear hb ho hd1 hd2 hd3 hld2 HS1 HU1 HK1 HC1 HB1
              go_wp2_with fail
              refine (Series_any _ ps _ HSA.out HGr.out.small).mono ?_
              rintro e wB ⟨hb, hcase⟩
              obtain ⟨_, s2, ss, Ls, rfl, hser, hlen, hrow, hall⟩ := hcase.resolve_left (fun h => h.1 HGr.out)
              have hmts := serR_match HGr.out hser HSr.out
              have hml := hmts.len
              have hspss : Spss wB s2 Q := hrow.spss (hlen.trans hml) fun i hi => by
                obtain ⟨g1, g2, g3, g4⟩ := hmts.get i hi
                obtain ⟨L', p1, p2, p3⟩ := hall i (by omega)
                rw [perms_grp p1 p2 g4 g2 g3 g1] at p3
                exact p3.sps
              have HSm := Lib.hid (show Small3 Q from fun i hi => (hmts.get i hi).2.1.small1)
              have HDB := Lib.hid (HDA.out.below hb)
              have HSB := Lib.hid (HSA.out.below hb)
              have HUB := Lib.hid (HUA.out.below hb)
              have HKB := Lib.hid (HKA.out.below hb)
              have HCB := Lib.hid (HCA.out.below hb)
              have HBB := Lib.hid (HBA.out.trans (hb.mono HBA.out.size))
              have HEB := Lib.hid hspss
              obtain ⟨sa, sc, rfl, _⟩ := hspss
              rw [← HLk.out] at HEB ⊢
              clear hb hcase hser hlen hrow hall hmts hml HDA HSA HUA HKA HCA HBA
              go_wp2_with fail
              refine (Solvable_any _ ps _ HSB.out HGr.out.small).mono ?_
              rintro e wC ⟨hb, hcase⟩
              obtain ⟨_, Ls2, M, r, rfl, hser, hM, hr⟩ := hcase.resolve_left (fun h => h.1 HGr.out)
              have hml : M.length = q.length := (serR_match HGr.out hser HSr.out).last hM (show Q.getD (Q.length - 1) [] = q by rw [← HLk.out]; exact HLz.out) (by rw [← HLk.out]; exact hk0)
              rw [← HLQ.out] at hml
              have hrs : ((lq : Int) == 1) = r := by
                rw [hml] at hr
                cases r with
                | true => rw [hr.1 rfl]; rfl
                | false => exact beq_eq_false_iff_ne.2 (fun h => by have := hr.2 (by omega); cases this)
              have HDC := Lib.hid (HDB.out.below hb)
              have HSC := Lib.hid (HSB.out.below hb)
              have HUC := Lib.hid (HUB.out.below hb)
              have HKC := Lib.hid (HKB.out.below hb)
              have HCC := Lib.hid (HCB.out.below hb)
              have HEC := Lib.hid (HEB.out.below hb)
              have HBC := Lib.hid (HBB.out.trans (hb.mono HBB.out.size))
              have HRs := Lib.hid hrs
              clear hb hcase hser hM hr hml hrs HDB HSB HUB HKB HCB HEB HBB
              go_wp2_with fail
              refine (Center_ok _ ps _ HSC.out HGr.out).mono ?_
              rintro e wD ⟨hb, c2, G, L, L', rfl, g, hm, hp, ha, ho⟩
              rw [cen_list HGr.out g hm hp ha, ← HZc.out] at ho
              have HFD := Lib.hid ho.sps
              have HDD := Lib.hid (HDC.out.below hb)
              have HSD := Lib.hid (HSC.out.below hb)
              have HUD := Lib.hid (HUC.out.below hb)
              have HKD := Lib.hid (HKC.out.below hb)
              have HCD := Lib.hid (HCC.out.below hb)
              have HED := Lib.hid (HEC.out.below hb)
              have HBD := Lib.hid (HBC.out.trans (hb.mono HBC.out.size))
              clear hb g hm hp ha ho HDC HSC HUC HKC HCC HEC HBC
              go_wp2_with fail
              refine (Classes_ok _ ps _ HSD.out HGr.out).mono ?_
              rintro e wE ⟨hb, z2, G2, L2, S2, rfl, g, hm, hp, ha, ho⟩
              have he : S2 = pks ps := pks_all HGr.out g hm hp ha
              rw [he, show (pks ps).length = ps.length by unfold pks; rw [List.length_map]] at ho
              have ho : QRow wD.heap.size wE z2 (clsR ps ps.length) := ho
              rw [← HCq.out] at ho
              have HGE := Lib.hid ho.spss
              have HFE := Lib.hid (HFD.out.below hb)
              have HDE := Lib.hid (HDD.out.below hb)
              have HUE := Lib.hid (HUD.out.below hb)
              have HKE := Lib.hid (HKD.out.below hb)
              have HCE := Lib.hid (HCD.out.below hb)
              have HEE := Lib.hid (HED.out.below hb)
              have HBE := Lib.hid (HBD.out.trans (hb.mono HBD.out.size))
              clear hb g hm hp ha ho he HFD HDD HSD HUD HKD HCD HED HBD
              obtain ⟨t, ht⟩ : ∃ t, t = min 1 (k - 1) := ⟨_, rfl⟩
              have htk : t < k := by rw [ht]; omega
              have hmn : min (1 : Int) ((k - 1 : Nat) : Int) = (t : Int) := by rw [ht]; omega
              obtain ⟨_, _, e, hU⟩ := HUE.out
              rcases hU with hU | ⟨bU, oU, e2, hU⟩
              · have := HLk.out
                rw [hU] at this
                simp at this; omega
              rw [e2] at e
              injection e with q1 q2 q3
              injection q1 with q1
              injection q1 with k1 k2
              subst k1
              subst k2
              clear q2 q3
              obtain ⟨x1, p1, p2⟩ := hU t (by rw [← HLk.out]; exact htk)
              obtain ⟨x2, p3, p4⟩ := hU (k - 1) (by rw [← HLk.out]; omega)
              rw [Nat.zero_add] at p1 p3
              rw [show Q.getD t [] = d2 by rw [HDe.out, ht, ← HLk.out]] at p2
              rw [HLz.out] at p4
              have HT2 := Lib.hid p2
              obtain ⟨ta, tc, rfl, _⟩ := p2
              obtain ⟨ea, ec, rfl, _⟩ := p4
              rw [← HLQ.out] at p3
              obtain ⟨tn, htn⟩ : ∃ tn, tn = d2.length := ⟨_, rfl⟩
              rw [← htn] at p1 HT2
              have HC9 := Lib.hid (show ∀ w', Below wE.heap.size wE w' → w'.cell? ⟨gd, k - 1, none⟩ = some (.slice ea lq ec) from fun w' h => (h.cell (p := ⟨gd, k - 1, none⟩) (World.block_lt_of_cell? wE _ p3)).trans p3)
              have HSame := Lib.hid (show Calls Try.prog 18 #[.slice ya2 ld2 yc2, .slice ta tn tc] wE fun e w' => e = .returned (.bool true) ∧ Below wE.heap.size wE w' from
                (refSame_any _ _ d2 d2 wE HDE.out HT2.out HDs.out.1 HDs.out.2 HDs.out.2).mono fun e w' ⟨r, he, hr, hb⟩ => ⟨by rw [he, hr.2 rfl], hb⟩)
              clear p3 ht hU htn
              go_wp2_with fail
              refine HSame.out.mono ?_
              rintro e wF ⟨rfl, hb⟩
              have HBB := Lib.hid hb
              have HSa := Lib.hid (show Calls Try.prog 31 #[.slice sa k sc, .slice (some ⟨gd, 0, none⟩) k cd] wF fun e w' => e = .returned (.bool true) ∧ Below wF.heap.size wF w' from
                (refSameAll_any _ _ Q Q wF (HEE.out.below hb) (HUE.out.below hb) (by rw [← HLk.out]; omega) HSm.out HSm.out).mono fun e w' ⟨r, he, hr, hb⟩ => ⟨by rw [he, hr.2 rfl], hb⟩)
              clear hb p1 hmn
              go_wp2_with fail
              refine HSa.out.mono ?_
              rintro e wG ⟨rfl, hb⟩
              have hb2 := HBB.out.trans (hb.mono HBB.out.size)
              have c9 := HC9.out wG hb2
              have HBB := Lib.hid hb2
              have hrs := HRs.out
              have HSb := Lib.hid (show ∀ a c b d, Sps wE (.slice a b c) Z → Sps wE d Z → Calls Try.prog 18 #[.slice a b c, d] wG fun e w' => e = .returned (.bool true) ∧ Below wG.heap.size wG w' from
                fun a c b d h1 h2 => (refSame_any _ _ Z Z wG (h1.below hb2) (h2.below hb2) HCs.out.1 HCs.out.2 HCs.out.2).mono fun e w' ⟨r, he, hr, hb⟩ => ⟨by rw [he, hr.2 rfl], hb⟩)
              obtain ⟨fa3, fc3, hfe, _⟩ := HFE.out
              obtain ⟨zn2, hzn2⟩ : ∃ zn2, zn2 = Z.length := ⟨_, rfl⟩
              rw [← hzn2] at hfe
              subst hfe
              have HSb2 := Lib.hid (HSb.out _ _ _ _ HFE.out HCE.out)
              clear hb hb2 hzn2 HSb
              go_wp2_with fail
              refine HSb2.out.mono ?_
              rintro e wH ⟨rfl, hb⟩
              have hb2 := HBB.out.trans (hb.mono HBB.out.size)
              have HBB := Lib.hid hb2
              obtain ⟨za3, zc3, hze, _⟩ := HGE.out
              subst hze
              have HSc := Lib.hid (show Calls Try.prog 31 #[.slice za3 C.length zc3, .slice (some ⟨gk, 0, none⟩) N ck] wH fun e w' => e = .returned (.bool true) ∧ Below wH.heap.size wH w' from
                (refSameAll_any _ _ C C wH (HGE.out.below hb2) (HKE.out.below hb2) HKs.out.1 HKs.out.2 HKs.out.2).mono fun e w' ⟨r, he, hr, hb⟩ => ⟨by rw [he, hr.2 rfl], hb⟩)
              clear hb hb2 c9 hrs
              go_wp2_with fail
              refine HSc.out.mono ?_
              rintro e wI ⟨rfl, hb⟩
              have HBJ := Lib.hid (HBE.out.trans ((HBB.out.trans (hb.mono HBB.out.size)).mono HBE.out.size))
              clear hb
              go_wp2_with fail
              refine (alive_any _).mono ?_
              rintro e wJ ⟨rfl, hb⟩
              have HBK := Lib.hid (HBJ.out.trans (hb.mono HBJ.out.size))
              clear hb
              go_wp2_with fail
              go_ret
              exact ⟨rfl, HBK.out⟩
        · have hlt : ld < lq := by omega
          have HC2 := Lib.hid (HC.out.snoc HD.out (by rw [← HLd.out, ← HLQ.out]; exact hlt))
          have hsw := HB2.out.size
          have hR2 : w6.ownsRow w3.heap.size 22 1 (.slice (some ⟨gd, 0, none⟩) k cd) xs.length xs := HR2.out
          have HKx := Lib.hid HKk.out
          rw [← HKk.out] at hR2
          clear HC HR2 HKk
          go_wp2_with (at_builtin; go_loud (refine wpList_append_own _ rfl _ _ 33 rfl w3.heap.size 22 i0 (.slice none 0 0) 1 24 Try.underlying33 hi0 hz0 hz1 hz2 rfl (by decide) (.slice (some ⟨gd, 0, none⟩) k cd) k xs rfl (hR2.alloc _) ⟨w6.heap.size, 0, none⟩ 1 1 [.slice da ld dc] rfl rfl (cell_one_new _ _ _) (by simp [Value.oneCell']) (by unfold maxLen; omega) (by omega) (by simp; omega) ?_; intro v' w7 hown' hgrow _))
          have ht := row_typ (hR2.alloc (.cells #[.slice da ld dc] 22))
          have TR := Lib.hid (show VRow w3.heap.size w7 v' (xs ++ [.slice da ld dc]) from by
            unfold VRow
            rw [List.length_append, ← HKx.out]
            exact hown')
          have TA := Lib.hid (show ∀ i, i < (qs ++ [q] ++ [d]).length → ElS w3 w7 ((xs ++ [Value.slice da ld dc]).getD i undef) ((qs ++ [q] ++ [d]).getD i []) from fun i hi => by
            rw [List.length_append] at hi
            simp only [List.length_cons, List.length_nil] at hi
            have hl := HL.out
            by_cases e : i < (qs ++ [q]).length
            · have e1 : (xs ++ [Value.slice da ld dc]).getD i undef = xs.getD i undef := by simp [List.getD_eq_getElem?_getD, List.getElem?_append_left (show i < xs.length by omega)]
              have e2 : (qs ++ [q] ++ [d]).getD i [] = (qs ++ [q]).getD i [] := by rw [List.getD_eq_getElem?_getD, List.getElem?_append_left e, ← List.getD_eq_getElem?_getD]
              rw [e1, e2]; exact (HA2.out i e).other hgrow ht
            · have e0 : i = (qs ++ [q]).length := by omega
              have e1 : (xs ++ [Value.slice da ld dc]).getD i undef = .slice da ld dc := by rw [e0, ← hl]; simp
              have e2 : (qs ++ [q] ++ [d]).getD i [] = d := by rw [e0]; simp
              rw [e1, e2]; exact ElS.other (.inr HO.out) hgrow ht)
          have TB := Lib.hid ((HB2.out.alloc hsw (.cells #[.slice da ld dc] 22)).grown hgrow (by simp; omega) (fun r e => (hR2.lt r e).1))
          clear hown' hgrow hR2 ht
          go_wp2
          go_roundg ld
          case rel => exact ⟨d, qs ++ [q], _, HLd, TR, Lib.hid (by rw [List.length_append, HL.out]; simp), TA, HC2, Lib.hid (by have := HHd.out; rw [List.head?_append, this]; rfl), HGd, Lib.hid (by have := HN.out; rw [List.length_append, ← HLd.out]; rw [← HLQ.out] at this; simp; omega), TB⟩
          case measure => rw [HKq.out, ← HLQ.out]; exact hlt
end Go.Proofs.Ytnnkccfbfjjojaa
