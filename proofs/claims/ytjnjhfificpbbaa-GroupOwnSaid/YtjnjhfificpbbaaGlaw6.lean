/- GroupLaws. -/
import Derived.Test.YtjnjhfificpbbaaLAG
import Derived.Test.YtjnjhfificpbbaaGlaw5
namespace Go.Proofs.Ytjnjhfificpbbaa
open Go Go.RowKit Go.Deep

/-- groups with the same members are the same list -/
theorem grp_ext {p q : List (List Int)} (hp : IsGrp p) (hq : IsGrp q) (hl : (p.getD 0 []).length = (q.getD 0 []).length) (hm : ∀ a, a ∈ pks p ↔ a ∈ pks q) : p = q := by
  obtain ⟨e1, e2⟩ := pks_rise (grp_len hp) (grp_pair hp)
  rw [← perms_grp (List.Perm.refl _) e2 e1 hq rfl hm, ← hl, pks_take (grp_len hp)]
theorem pks_nd {p : List (List Int)} (hp : IsGrp p) : (pks p).Nodup := (pks_rise (grp_len hp) (grp_pair hp)).1
theorem Close_ok (v : Value) (gs : List (List Int)) (w : World) (h : Sps w v gs) (hg : GenP gs) :
    Calls Try.prog 16 #[v] w fun e w' => Below w.heap.size w w' ∧ ∃ x ps, e = .returned (.tuple #[x, .int .i64 0]) ∧ Owp w.heap.size w' x ps ∧ IsGrp ps ∧ (ps.getD 0 []).length = (gs.getD 0 []).length ∧ ∀ a, a ∈ pks ps ↔ Gen (pks gs) a := by
  have hx : ∀ i, i < gs.length → (gs.getD i []).length ≤ 1000000 := fun i hi => by
    have h1 := (validL_iff _).1 (hg.2.2 i hi).1
    omega
  refine (Close_any v gs w h hx).mono fun e w' ⟨hb, hc⟩ => ⟨hb, ?_⟩
  obtain ⟨_, x, L, he, hp, hn, hm⟩ := hc.resolve_left fun h => h.1 hg
  obtain ⟨L', p1, p2, p3, p4, p5, p6, p7⟩ := close_back hg hp hn hm
  exact ⟨x, _, he, p4, p5, p7, fun a => by rw [p6, p1.mem_iff]; exact hm a⟩
theorem Derived_ok (v : Value) (ps : List (List Int)) (w : World) (h : Sps w v ps) (hg : IsGrp ps) :
    Calls Try.prog 21 #[v] w fun e w' => Below w.heap.size w w' ∧ ∃ x d, e = .returned (.tuple #[x, .int .i64 0]) ∧ Owp w.heap.size w' x d ∧ IsGrp d ∧ (d.getD 0 []).length = (ps.getD 0 []).length ∧ IsDer (pks ps) (pks d) := by
  refine (Derived_any v ps w h hg.small).mono fun e w' ⟨hb, hc⟩ => ⟨hb, ?_⟩
  obtain ⟨_, x, K, he, ⟨K', p1, p2, p3⟩, hn, hd⟩ := hc.resolve_left fun h => h.1 hg
  obtain ⟨e1, e2, e3⟩ := back_grp hg.seven (els_comms hg.1.els) hd hn p1 p2 fun a ha => by
    obtain ⟨p, hp, rfl⟩ := List.mem_map.1 (hd.le hg.cl ha)
    exact ⟨p, (hg.1.mem hp).1, (hg.1.mem hp).2, rfl⟩
  exact ⟨x, _, he, p3, e1, e3, fun a => by rw [e2, p1.mem_iff]; exact hd a⟩
theorem ps_cap {H : Type} {enc : TypeId × Value → H} {W : World} {a : Option Addr} {len cap : Nat} {d : DataW H} {p : List MemPlace} (h : DataW.Trod enc Try.prog W 0 (fun _ => true) true 22 (.slice a len cap) d p) : len ≤ cap := by
  obtain ⟨fuel, hf⟩ := h
  rcases open_int_rows Try.underlying22 Try.underlying32 Try.underlying3 cells32 cells3 hf with ⟨hcs, _⟩ | ⟨ad, l, c, A, L, C, Z, hcs, _, hl, hm, _, hr⟩
  · simp [Value.cells] at hcs
    obtain ⟨rfl, rfl, rfl⟩ := hcs
    exact Nat.le_refl _
  · simp [Value.cells] at hcs
    obtain ⟨rfl, rfl, rfl⟩ := hcs
    exact hl
theorem Sps.pre {w : World} {a : Option Addr} {l cap k cap' : Nat} {ps : List (List Int)} (h : Sps w (.slice a l cap) ps) (hk : k ≤ ps.length) : Sps w (.slice a k cap') (ps.take k) := by
  obtain ⟨a', c', e, h⟩ := h
  cases e
  have hl : (ps.take k).length = k := by rw [List.length_take]; omega
  refine ⟨a, cap', by rw [hl], ?_⟩
  rcases h with h | ⟨b, off, rfl, h⟩
  · exact .inl (by rw [h]; simp)
  · refine .inr ⟨b, off, rfl, fun i hi => ?_⟩
    rw [hl] at hi
    obtain ⟨x, h1, h2⟩ := h i (by omega)
    refine ⟨x, h1, ?_⟩
    rwa [List.getD_eq_getElem?_getD, List.getElem?_take, if_pos hi, ← List.getD_eq_getElem?_getD]
theorem GenP.pre {ps : List (List Int)} (h : GenP ps) {k : Nat} (h0 : 1 ≤ k) (hk : k ≤ ps.length) : GenP (ps.take k) ∧ ((ps.take k).getD 0 []).length = (ps.getD 0 []).length := by
  have hl : (ps.take k).length = k := by rw [List.length_take]; omega
  have hi : ∀ i, i < k → (ps.take k).getD i [] = ps.getD i [] := fun i hi => by rw [List.getD_eq_getElem?_getD, List.getElem?_take, if_pos hi, ← List.getD_eq_getElem?_getD]
  refine ⟨⟨by omega, by rw [hl]; have := h.2.1; omega, fun i h' => ?_⟩, by rw [hi 0 (by omega)]⟩
  rw [hl] at h'
  rw [hi i h', hi 0 (by omega)]
  exact h.2.2 i (by omega)

set_option maxRecDepth 100000 in
set_option maxHeartbeats 4000000 in
theorem laws_law (v : Value) (gs : List (List Int)) (z : Int) (w : World) (h : InPs w v gs) (hz : z < 9223372036854775808) (hcap : ∀ a n c, v = .slice a n c → n ≤ c) :
    Calls Try.prog 9 #[v, .int .i64 z] w fun e w' => e = .returned (.bool true) ∧ Below w.heap.size w w' := by
  have HI := Lib.hid h
  obtain ⟨⟨a, cap, rfl, _⟩, _, _⟩ := h
  obtain ⟨m, hm⟩ : ∃ m, m = gs.length := ⟨_, rfl⟩
  have HM := Lib.hid hm
  have hmc : m ≤ cap := by rw [hm]; exact hcap _ _ _ rfl
  rw [← hm] at HI ⊢
  clear hm hcap
  go_enter Try.func9, Try.ntmps9
  go_wp2_with fail
  refine (closed_any _ gs _ HI.out).mono ?_
  rintro e w1 ⟨hb1, ⟨xa, xl, xc, rfl⟩ | ⟨x, ps0, rfl, ho, hc, _⟩⟩
  · have HB1 := Lib.hid hb1
    clear hb1
    go_wp2_with fail
    refine (alive_any _).mono ?_
    rintro e w2 ⟨rfl, hb⟩
    have HB := Lib.hid (HB1.out.trans (hb.mono HB1.out.size))
    clear hb
    go_wp2_with fail
    go_ret
    exact ⟨rfl, HB.out⟩
  · have HB1 := Lib.hid hb1
    have HG := Lib.hid hc.1
    have HS1 := Lib.hid (HI.out.1.below hb1)
    have hm1 : 1 ≤ m := by rw [HM.out]; exact hc.1.1
    have hm2 : m ≤ 5040 := by rw [HM.out]; exact hc.1.2.1
    obtain ⟨pa, pc, rfl, _⟩ := ho.sps
    clear hb1 hc ho
    go_wp2_with fail
    refine (Close_ok _ gs _ HS1.out HG.out).mono ?_
    rintro e w2 ⟨hb, y, ps, rfl, ho, g1, g2, g3⟩
    have HB2 := Lib.hid (HB1.out.trans (hb.mono HB1.out.size))
    have HS2 := Lib.hid (HS1.out.below hb)
    have HL2 := Lib.hid ho.sps
    have HP := Lib.hid g1
    have HP2 := Lib.hid g2
    have HP3 := Lib.hid g3
    obtain ⟨la, lc, rfl, _⟩ := ho.sps
    obtain ⟨l, hl⟩ : ∃ l, l = ps.length := ⟨_, rfl⟩
    have HL := Lib.hid hl
    rw [← hl] at HL2 ⊢
    clear hb ho g1 g2 g3 hl
    go_wp2_with fail
    refine (Close_ok _ ps _ HL2.out HP.out.1).mono ?_
    rintro e w3 ⟨hb, y2, ps2, rfl, ho, g1, g2, g3⟩
    have e1 : ps = ps2 := (grp_ext g1 HP.out g2 fun a => (g3 a).trans ⟨HP.out.2.2 a, Gen.of_mem HP.out.1.els⟩).symm
    subst e1
    have HB3 := Lib.hid (HB2.out.trans (hb.mono HB2.out.size))
    have HS3 := Lib.hid (HS2.out.below hb)
    have HL3 := Lib.hid (HL2.out.below hb)
    have HA3 := Lib.hid ho.sps
    obtain ⟨aa, ac, rfl, _⟩ := ho.sps
    rw [← HL.out] at HA3 ⊢
    clear hb ho g1 g2 g3
    obtain ⟨k, hk, k1, k2⟩ : ∃ k : Nat, wrap64 (1 + max 0 z % (m : Int)) = (k : Int) ∧ 1 ≤ k ∧ k ≤ m := by
      have h1 : 0 ≤ max 0 z % (m : Int) := Int.emod_nonneg _ (by omega)
      have h2 : max 0 z % (m : Int) < m := Int.emod_lt_of_pos _ (by omega)
      refine ⟨(1 + max 0 z % (m : Int)).toNat, ?_, by omega, by omega⟩
      unfold wrap64
      omega
    have hkc : (k : Int) ≤ (cap : Int) := by omega
    have HKp := Lib.hid (GenP.pre HG.out k1 (by rw [← HM.out]; exact k2))
    have HSk := Lib.hid (HS3.out.pre (k := k) (cap' := cap) (by rw [← HM.out]; exact k2))
    go_wp2_with fail
    refine (Close_ok _ _ _ HSk.out HKp.out.1).mono ?_
    rintro e w4 ⟨hb, y3, qs, rfl, ho, g1, g2, g3⟩
    have HB4 := Lib.hid (HB3.out.trans (hb.mono HB3.out.size))
    have HL4 := Lib.hid (HL3.out.below hb)
    have HA4 := Lib.hid (HA3.out.below hb)
    have HU4 := Lib.hid ho.sps
    have HQ := Lib.hid g1
    have HQs := Lib.hid (show ∀ x ∈ pks qs, x ∈ pks ps from fun x hx => (HP3.out x).2 (((g3 x).1 hx).sub HG.out.els fun y hy => by
      obtain ⟨p, hp, rfl⟩ := List.mem_map.1 hy
      exact Gen.of_mem HG.out.els (List.mem_map.2 ⟨p, List.mem_of_mem_take hp, rfl⟩)))
    obtain ⟨ua, uc, rfl, _⟩ := ho.sps
    obtain ⟨lu, hlu⟩ : ∃ lu, lu = qs.length := ⟨_, rfl⟩
    have HLU := Lib.hid hlu
    rw [← hlu] at HU4 ⊢
    clear hb ho g1 g2 g3 hlu
    go_wp2_with fail
    refine (Derived_ok _ ps _ HL4.out HP.out).mono ?_
    rintro e w5 ⟨hb, y4, d, rfl, ho, g1, g2, g3⟩
    have HB5 := Lib.hid (HB4.out.trans (hb.mono HB4.out.size))
    have HL5 := Lib.hid (HL4.out.below hb)
    have HA5 := Lib.hid (HA4.out.below hb)
    have HU5 := Lib.hid (HU4.out.below hb)
    have HD5 := Lib.hid ho.sps
    have HD := Lib.hid g1
    have HD2 := Lib.hid g2
    have HD3 := Lib.hid g3
    obtain ⟨da, dc, rfl, _⟩ := ho.sps
    obtain ⟨ld, hld⟩ : ∃ ld, ld = d.length := ⟨_, rfl⟩
    have HLD := Lib.hid hld
    rw [← hld] at HD5 ⊢
    have hu1 : 1 ≤ lu := by rw [HLU.out]; exact HQ.out.1.1
    have hd1 : 1 ≤ ld := by rw [HLD.out]; exact HD.out.1.1
    have hl1 : 1 ≤ l := by rw [HL.out]; exact HP.out.1.1
    have hu2 : lu ≤ 5040 := by rw [HLU.out]; exact HQ.out.1.2.1
    have hd2 : ld ≤ 5040 := by rw [HLD.out]; exact HD.out.1.2.1
    have hl2 : l ≤ 5040 := by rw [HL.out]; exact HP.out.1.2.1
    have hmu : ((l : Int) % (lu : Int)) = 0 := by
      have h := HP.out.cl.lagrange HQ.out.cl (pks_nd HP.out) (pks_nd HQ.out) HQs.out
      rw [pks_len, pks_len, ← HL.out, ← HLU.out] at h
      exact Int.emod_eq_zero_of_dvd (Int.natCast_dvd_natCast.2 h)
    have hmd : ((l : Int) % (ld : Int)) = 0 := by
      have h := HP.out.cl.lagrange HD.out.cl (pks_nd HP.out) (pks_nd HD.out) fun a ha => HD3.out.le HP.out.cl ha
      rw [pks_len, pks_len, ← HL.out, ← HLD.out] at h
      exact Int.emod_eq_zero_of_dvd (Int.natCast_dvd_natCast.2 h)
    have HSame := Lib.hid (show Calls Try.prog 18 #[.slice la l lc, .slice aa l ac] w5 fun e w' => e = .returned (.bool true) ∧ Below w5.heap.size w5 w' from
      (refSame_any _ _ ps ps w5 HL5.out HA5.out HP.out.small1.1 HP.out.small1.2 HP.out.small1.2).mono fun e w' ⟨r, he, hr, hb⟩ => ⟨by rw [he, hr.2 rfl], hb⟩)
    have n1 : ¬ lu = 0 := by omega
    have n2 : ¬ ld = 0 := by omega
    have n3 : ((lu : Int) == 0) = false := beq_eq_false_iff_ne.2 (by omega)
    have n4 : ((ld : Int) == 0) = false := beq_eq_false_iff_ne.2 (by omega)
    clear hb ho g1 g2 g3 hld hk hkc k1 k2 hz hmc hm1 hm2
    go_wp2_with fail
    refine HSame.out.mono ?_
    rintro e w6 ⟨rfl, hb⟩
    have HB6 := Lib.hid (HB5.out.trans (hb.mono HB5.out.size))
    have HL6 := Lib.hid (HL5.out.below hb)
    have HU6 := Lib.hid (HU5.out.below hb)
    have HD6 := Lib.hid (HD5.out.below hb)
    clear hb
    go_wp2_with fail
    refine (Normal_ok _ _ ps d _ HL6.out HD6.out HP.out HD.out).mono ?_
    rintro e w7 ⟨hb, hcase⟩
    have hnp : NormP ps d := fun a ha b hb => der_normal HP.out.cl HD3.out ha hb
    obtain ⟨_, _, r, rfl, hr⟩ := hcase.resolve_left fun h => by
      rcases h.1 with h | h
      · exact h HD2.out.symm
      · exact h fun a ha => HD3.out.le HP.out.cl ha
    have hr1 : r = true := hr.2 hnp
    subst hr1
    have HB7 := Lib.hid (HB6.out.trans (hb.mono HB6.out.size))
    have HL7 := Lib.hid (HL6.out.below hb)
    have HU7 := Lib.hid (HU6.out.below hb)
    clear hb hcase hr hnp
    go_wp2_with fail
    refine (Solvable_any _ ps _ HL7.out HP.out.small).mono ?_
    rintro e w8 ⟨hb, hcase⟩
    obtain ⟨_, Ls1, M1, r1, rfl, s1, l1, t1⟩ := hcase.resolve_left (fun h => h.1 HP.out)
    have HB8 := Lib.hid (HB7.out.trans (hb.mono HB7.out.size))
    have HL8 := Lib.hid (HL7.out.below hb)
    have HU8 := Lib.hid (HU7.out.below hb)
    have S1 := Lib.hid (And.intro s1 (And.intro l1 t1))
    clear hb hcase s1 l1 t1
    go_wp2_with fail
    refine (Solvable_any _ qs _ HU8.out HQ.out.small).mono ?_
    rintro e w9 ⟨hb, hcase⟩
    obtain ⟨_, Ls2, M2, r2, rfl, s2, l2, t2⟩ := hcase.resolve_left (fun h => h.1 HQ.out)
    have HRR := Lib.hid (show r1 = true → r2 = true from fun h => t2.2 (sol_sub HP.out HQ.out HQs.out S1.out.1 s2 S1.out.2.1 l2 (S1.out.2.2.1 h)))
    have HB9 := Lib.hid (HB8.out.trans (hb.mono HB8.out.size))
    have HL9 := Lib.hid (HL8.out.below hb)
    clear hb hcase s2 l2 t2
    go_wp2_with fail
    refine (Center_ok _ ps _ HL9.out HP.out).mono ?_
    rintro e wa ⟨hb, y5, G, L, L', rfl, g, hm, hp, ha, ho⟩
    rw [cen_list HP.out g hm hp ha] at ho
    have HBa := Lib.hid (HB9.out.trans (hb.mono HB9.out.size))
    obtain ⟨ca, cc, rfl, _⟩ := ho.sps
    obtain ⟨lc', hlc⟩ : ∃ lc', lc' = (cenL ps).length := ⟨_, rfl⟩
    rw [← hlc]
    obtain ⟨b1, hb1⟩ : ∃ b1, b1 = decide (ld = 1) := ⟨_, rfl⟩
    have hd1' : ((ld : Int) == 1) = b1 := by
      rw [hb1]
      by_cases e : ld = 1
      · subst e; rfl
      · rw [decide_eq_false e]; exact beq_eq_false_iff_ne.2 (by omega)
    have hd2' : ((lc' : Int) == (l : Int)) = b1 := by
      have h := der_center HP.out (pks_nd HD.out) HD3.out
      rw [pks_len, ← HLD.out, ← hlc, ← HL.out] at h
      rw [hb1]
      by_cases e : ld = 1
      · rw [decide_eq_true e, h.1 e]; simp
      · rw [decide_eq_false e]
        exact beq_eq_false_iff_ne.2 fun h2 => e (h.2 (by omega))
    clear hb g hm hp ha ho hlc hb1 n1 n2 n3 n4 hmu hmd
    cases r1 with
    | false =>
      cases r2 <;>
      · go_wp2_with fail
        refine (alive_any _).mono ?_
        rintro e wb ⟨rfl, hb⟩
        have HBb := Lib.hid (HBa.out.trans (hb.mono HBa.out.size))
        clear hb
        go_wp2_with fail
        go_ret
        exact ⟨rfl, HBb.out⟩
    | true =>
      have hr2 := HRR.out rfl
      subst hr2
      go_wp2_with fail
      refine (alive_any _).mono ?_
      rintro e wb ⟨rfl, hb⟩
      have HBb := Lib.hid (HBa.out.trans (hb.mono HBa.out.size))
      clear hb
      go_wp2_with fail
      go_ret
      exact ⟨rfl, HBb.out⟩
end Go.Proofs.Ytjnjhfificpbbaa
