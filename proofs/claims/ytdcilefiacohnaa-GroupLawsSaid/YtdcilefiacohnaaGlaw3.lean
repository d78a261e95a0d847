/- GroupSeries. -/
import Derived.Test.YtdcilefiacohnaaREFG
namespace Go.Proofs.Ytdcilefiacohnaa
open Go Go.RowKit

theorem grp_pair {q : List (List Int)} (h : IsGrp q) : q.Pairwise fun a b => cmpLex a b < 0 := by
  rw [List.pairwise_iff_getElem]
  intro i j hi hj hij
  have := rise_lt h.2.1 (i := i) (j - i - 1) (by omega)
  rw [show i + (j - i - 1) + 1 = j by omega] at this
  simpa [hi, hj] using this
theorem grp_len {q : List (List Int)} (h : IsGrp q) : ∀ p ∈ q, p.length = (q.getD 0 []).length := fun _ hp => (h.1.mem hp).2
/-- what perms hands back of the members of a listed group is the list -/
theorem perms_grp {n : Nat} {L L' q : List (List Int)} (hp : L'.Perm L) (ha : Asc L') (hn : L.Nodup) (hq : IsGrp q) (h0 : (q.getD 0 []).length = n) (hm : ∀ a, a ∈ L ↔ a ∈ pks q) : L'.map (List.take n) = q := by
  have hl := grp_len hq
  rw [h0] at hl
  obtain ⟨e1, e2⟩ := pks_rise hl (grp_pair hq)
  have e : L' = pks q := asc_uniq (hp.nodup_iff.2 hn) e1 ha e2 fun a => hp.mem_iff.trans (hm a)
  rw [e, pks_take hl]
theorem match_len {L q : List (List Int)} (hn : L.Nodup) (hq : IsGrp q) (hm : ∀ a, a ∈ L ↔ a ∈ pks q) : L.length = q.length := by
  have h1 := pks_nodup hq.1 hq.2.1
  have a := nodup_le hn (fun x hx => (hm x).1 hx)
  have b := nodup_le h1 (fun x hx => (hm x).2 hx)
  rw [pks_len] at a b
  omega

/-- the program's series and the reference's, list by list -/
def Mts (n : Nat) : List (List (List Int)) → List (List (List Int)) → Prop
  | [], [] => True
  | L :: Lr, q :: qr => ((∀ a, a ∈ L ↔ a ∈ pks q) ∧ IsGrp q ∧ (q.getD 0 []).length = n ∧ L.Nodup) ∧ Mts n Lr qr
  | _, _ => False
theorem Mts.len {n : Nat} : ∀ {Ls qs : List (List (List Int))}, Mts n Ls qs → Ls.length = qs.length
  | [], [], _ => rfl
  | _ :: _, _ :: _, h => by simp only [List.length_cons]; rw [Mts.len h.2]
theorem Mts.get {n : Nat} : ∀ {Ls qs : List (List (List Int))}, Mts n Ls qs → ∀ i, i < qs.length → (∀ a, a ∈ Ls.getD i [] ↔ a ∈ pks (qs.getD i [])) ∧ IsGrp (qs.getD i []) ∧ ((qs.getD i []).getD 0 []).length = n ∧ (Ls.getD i []).Nodup
  | [], [], _, i, hi => by simp at hi
  | _ :: _, _ :: _, h, 0, _ => by simpa using h.1
  | _ :: _, _ :: _, h, i + 1, hi => by simpa using Mts.get h.2 i (by simpa using hi)
theorem ser_match {n : Nat} : ∀ {Lr qr : List (List (List Int))} {L q : List (List Int)}, Chn (L :: Lr) → (∃ M, (L :: Lr).getLast? = some M ∧ IsDer M M) → (∀ X ∈ L :: Lr, X.Nodup) → ChR n (q :: qr) → (∃ d z, (q :: qr).getLast? = some z ∧ Lists n d (Gen (comms (pks z))) ∧ d.length = z.length) → IsGrp q → (q.getD 0 []).length = n → (∀ a, a ∈ L ↔ a ∈ pks q) → Mts n (L :: Lr) (q :: qr)
  | [], [], L, q, _, _, hn, _, _, hq, h0, hm => ⟨⟨hm, hq, h0, hn L (by simp)⟩, trivial⟩
  | [], d :: r, L, q, _, ⟨M, hM, hd⟩, hn, hc, _, hq, h0, hm => by
    have e : M = L := by simpa using hM.symm
    subst e
    exfalso
    obtain ⟨g1, _, g3, _, _⟩ := der_grp hq h0 hc.1
    have h1 := match_len (hn M (by simp)) hq hm
    have h2 := match_len (hn M (by simp)) g1 fun a => ((hd.same hm) a).trans (g3 a).symm
    have := hc.2.1
    omega
  | K :: Lr, [], L, q, hC, _, hn, _, ⟨d, z, hz, hd, hl⟩, hq, h0, hm => by
    have e : z = q := by simpa using hz.symm
    subst e
    exfalso
    obtain ⟨_, _, _, _, g5⟩ := der_grp hq h0 hd
    have h1 := match_len (hn L (by simp)) hq hm
    have h2 := match_len (hn K (by simp)) hq fun a => ((hC.1.same hm) a).trans (g5 hl a).symm
    have := hC.2.1
    omega
  | K :: Lr, d :: qr, L, q, hC, ⟨M, hM, hMd⟩, hn, hc, ⟨e, z, hz, he, hl⟩, hq, h0, hm => by
    obtain ⟨g1, g2, g3, _, _⟩ := der_grp hq h0 hc.1
    refine ⟨⟨hm, hq, h0, hn L (by simp)⟩, ?_⟩
    exact ser_match hC.2.2 ⟨M, by simpa using hM, hMd⟩ (fun X hX => hn X (List.mem_cons_of_mem _ hX)) hc.2.2 ⟨e, z, by simpa using hz, he, hl⟩ g1 g2 fun a => ((hC.1.same hm) a).trans (g3 a).symm
theorem serR_match {ps : List (List Int)} {Ls qs : List (List (List Int))} (hg : IsGrp ps) (hs : SerOf ps Ls) (hr : SerR ps qs) : Mts (ps.getD 0 []).length Ls qs := by
  obtain ⟨h1, ⟨L0, h2, h3⟩, h4, h5⟩ := hs
  obtain ⟨qs', z, e, k1, k2, _, _, d, k3, k4⟩ := hr
  cases Ls with
  | nil => cases h2
  | cons L Lr =>
    cases qs with
    | nil => cases k2
    | cons q qr =>
      have e1 : L = L0 := by simpa using h2
      have e2 : q = ps := by simpa using k2
      subst e1 e2
      exact ser_match h1 h4 h5 k1 ⟨d, z, by rw [e]; simp, k3, k4⟩ hg rfl h3

theorem Mts.last {n : Nat} {Ls qs : List (List (List Int))} {M z : List (List Int)} (h : Mts n Ls qs) (hM : Ls.getLast? = some M) (hz : qs.getD (qs.length - 1) [] = z) (h0 : 0 < qs.length) : M.length = z.length := by
  have hl := h.len
  obtain ⟨g1, g2, _, g4⟩ := h.get (qs.length - 1) (by omega)
  rw [hz] at g1 g2
  have e : Ls.getD (qs.length - 1) [] = M := by
    rw [List.getLast?_eq_getElem?, hl] at hM
    rw [List.getD_eq_getElem?_getD, hM]; rfl
  rw [e] at g1 g4
  exact match_len g4 g2 g1
theorem IsGrp.small1 {q : List (List Int)} (h : IsGrp q) : q.length ≤ 1000000 ∧ ∀ k, k < q.length → (q.getD k []).length ≤ 1000000 := ⟨by have := h.1.2.1; omega, h.small⟩

set_option maxRecDepth 100000 in
set_option maxHeartbeats 4000000 in
theorem series_law (v : Value) (gs : List (List Int)) (w : World) (h : InPs w v gs) :
    Calls Try.prog 5 #[v] w fun e w' => e = .returned (.bool true) ∧ Below w.heap.size w w' := by
  have HI := Lib.hid h
  obtain ⟨⟨a, cap, rfl, _⟩, _, _⟩ := h
  obtain ⟨m, hm⟩ : ∃ m, m = gs.length := ⟨_, rfl⟩
  rw [← hm] at HI ⊢
  clear hm
  go_enter Try.func5, Try.ntmps5
  go_wp2_with fail
  refine (closed_any _ gs _ HI.out).mono ?_
  rintro e w1 ⟨hb1, ⟨xa, xl, xc, rfl⟩ | ⟨x, ps, rfl, ho, hc, _⟩⟩
  · have HB1 := Lib.hid hb1
    clear hb1
    go_wp2_with fail
    refine (alive_any _).mono ?_
    rintro e w2 ⟨rfl, hb⟩
    have HB := Lib.hid (HB1.out.trans (hb.mono HB1.out.size))
    clear hb
    go_wp2_with fail
    go_ret
    exact ⟨rfl, HB.out⟩
  · have HB1 := Lib.hid hb1
    have HG := Lib.hid hc.2.1
    have HX := Lib.hid hc.2.1.small
    have HS := Lib.hid ho.sps
    have h7 := Lib.hid hc.2.1.seven
    have hl360 := hc.2.2.1
    obtain ⟨pa, pc, rfl, _⟩ := ho.sps
    obtain ⟨n, hn⟩ : ∃ n, n = (ps.getD 0 []).length := ⟨_, rfl⟩
    have HN := Lib.hid hn
    obtain ⟨l, hl⟩ : ∃ l, l = ps.length := ⟨_, rfl⟩
    rw [← hl] at HS hl360 ⊢
    have HL := Lib.hid hl
    clear hb1 hc ho hn hl
    go_wp2_with fail
    refine (refDer_any _ ps _ HS.out HG.out.1).mono ?_
    rintro e w2 ⟨y, d, rfl, ho, hd, hb⟩
    have HB2 := Lib.hid (HB1.out.trans (hb.mono HB1.out.size))
    have HS2 := Lib.hid (HS.out.below hb)
    have HD := Lib.hid ho.sps
    have HDl := Lib.hid hd
    have HDg := Lib.hid (der_grp HG.out rfl hd)
    obtain ⟨ya, yc, rfl, _⟩ := ho.sps
    obtain ⟨ld, hld⟩ : ∃ ld, ld = d.length := ⟨_, rfl⟩
    rw [← hld] at HD ⊢
    clear ho hd hb hld
    go_wp2_with fail
    refine (refSeries_any _ ps _ HS2.out HG.out).mono ?_
    rintro e w3 ⟨u, us, qs, rfl, hu1, hu2, hu3, hu4, hu5, hb⟩
    have HB3 := Lib.hid (HB2.out.trans (hb.mono HB2.out.size))
    have HS3 := Lib.hid (HS2.out.below hb)
    have HD3 := Lib.hid (HD.out.below hb)
    have HU := Lib.hid (VRow.spss hu1 hu2 fun i hi => (hu3 i hi).sps hb)
    have HR := Lib.hid hu4
    obtain ⟨ua, uc, e0, hu6⟩ := HU.out
    subst e0
    obtain ⟨qs', z, eq, _⟩ := hu4
    have hq0 : 0 < qs.length := by rw [eq]; simp
    rcases hu6 with hu6 | ⟨ub, uo, rfl, hu6⟩
    · rw [hu6] at hq0; simp at hq0
    obtain ⟨zx, z1, z2⟩ := hu6 (qs.length - 1) (by omega)
    have ez : qs.getD (qs.length - 1) [] = z := by rw [eq]; simp
    rw [ez] at z2
    have HEz := Lib.hid ez
    obtain ⟨za, zc, rfl, _⟩ := z2
    obtain ⟨k, hk⟩ : ∃ k, k = qs.length := ⟨_, rfl⟩
    have HK := Lib.hid hk
    rw [← hk] at HU hq0 z1 hu5 ⊢
    obtain ⟨lz, hlz⟩ : ∃ lz, lz = z.length := ⟨_, rfl⟩
    have HLz := Lib.hid hlz
    rw [← hlz] at z1
    have z1' : w3.cell? ⟨ub, uo + (k - 1), none⟩ = some (.slice za lz zc) := z1
    have hk1 : ((k : Int) - 1) = ((k - 1 : Nat) : Int) := by omega
    have hkb : k ≤ 5041 := hu5
    obtain ⟨s0, hs0⟩ : ∃ s0, s0 = decide (lz = 1) := ⟨_, rfl⟩
    have hs1 : ((lz : Int) == 1) = s0 := by
      rw [hs0]
      by_cases e : lz = 1
      · subst e; rfl
      · rw [decide_eq_false e]; exact beq_eq_false_iff_ne.2 (by omega)
    have HS0 := Lib.hid hs0
    clear hu1 hu2 hu3 hu6 hb eq ez hk hlz z1 hs0 hu5
    go_wp2_with fail
    refine (Derived_any _ ps _ HS3.out HX.out).mono ?_
    rintro e w4 ⟨hb, hcase⟩
    obtain ⟨_, y2, K, rfl, hp, hnd, hder⟩ := hcase.resolve_left (fun h => h.1 HG.out)
    obtain ⟨L', p1, p2, p3⟩ := hp
    have he := perms_grp p1 p2 hnd HDg.out.1 HDg.out.2.1 (fun a => (hder a).trans (HDg.out.2.2.1 a).symm)
    rw [he] at p3
    have HB4 := Lib.hid (HB3.out.trans (hb.mono HB3.out.size))
    have HS4 := Lib.hid (HS3.out.below hb)
    have HD4 := Lib.hid (HD3.out.below hb)
    have HU4 := Lib.hid (HU.out.below hb)
    have HE4 := Lib.hid p3.sps
    obtain ⟨ya2, yc2, rfl, _⟩ := p3.sps
    obtain ⟨ld2, hld2⟩ : ∃ ld2, ld2 = d.length := ⟨_, rfl⟩
    rw [← hld2] at HE4 ⊢
    clear hb hcase p1 p2 p3 hnd hder he hld2
    go_wp2_with fail
    refine (Series_any _ ps _ HS4.out HX.out).mono ?_
    rintro e w5 ⟨hb, hcase⟩
    obtain ⟨_, s, ss, Ls, rfl, hser, hlen, hrow, hall⟩ := hcase.resolve_left (fun h => h.1 HG.out)
    have hmts := serR_match HG.out hser HR.out
    have hml := hmts.len
    have hspss : Spss w5 s qs := hrow.spss (hlen.trans hml) fun i hi => by
      obtain ⟨g1, g2, g3, g4⟩ := hmts.get i hi
      obtain ⟨L', p1, p2, p3⟩ := hall i (by omega)
      rw [perms_grp p1 p2 g4 g2 g3 g1] at p3
      exact p3.sps
    have HSm := Lib.hid (show Small3 qs from fun i hi => (hmts.get i hi).2.1.small1)
    have HB5 := Lib.hid (HB4.out.trans (hb.mono HB4.out.size))
    have HS5 := Lib.hid (HS4.out.below hb)
    have HD5 := Lib.hid (HD4.out.below hb)
    have HU5 := Lib.hid (HU4.out.below hb)
    have HE5 := Lib.hid (HE4.out.below hb)
    have HSs := Lib.hid hspss
    obtain ⟨sa, sc, rfl, _⟩ := hspss
    rw [← HK.out] at HSs ⊢
    clear hb hcase hser hlen hrow hall hmts hml
    go_wp2_with fail
    refine (Solvable_any _ ps _ HS5.out HX.out).mono ?_
    rintro e w6 ⟨hb, hcase⟩
    obtain ⟨_, Ls2, M, r, rfl, hser, hM, hr⟩ := hcase.resolve_left (fun h => h.1 HG.out)
    have hml := (serR_match HG.out hser HR.out).last hM HEz.out (by rw [← HK.out]; exact hq0)
    rw [← HLz.out] at hml
    have hrs : r = s0 := by
      rw [HS0.out]
      rw [hml] at hr
      cases r with
      | true => exact (decide_eq_true (hr.1 rfl)).symm
      | false => exact (decide_eq_false (fun h => by have := hr.2 h; cases this)).symm
    subst hrs
    have HB6 := Lib.hid (HB5.out.trans (hb.mono HB5.out.size))
    have HD6 := Lib.hid (HD5.out.below hb)
    have HU6 := Lib.hid (HU5.out.below hb)
    have HE6 := Lib.hid (HE5.out.below hb)
    have HSs6 := Lib.hid (HSs.out.below hb)
    have HSame := Lib.hid (show Calls Try.prog 18 #[.slice ya2 ld2 yc2, .slice ya ld yc] w6 fun e w' => e = .returned (.bool true) ∧ Below w6.heap.size w6 w' from
      (refSame_any _ _ d d w6 HE6.out HD6.out HDg.out.1.small1.1 HDg.out.1.small1.2 HDg.out.1.small1.2).mono fun e w' ⟨r, he, hr, hb⟩ => ⟨by rw [he, hr.2 rfl], hb⟩)
    clear hb hcase hser hM hr hml
    go_wp2_with fail
    refine HSame.out.mono ?_
    rintro e w7 ⟨rfl, hb⟩
    have HB7 := Lib.hid (HB6.out.trans (hb.mono HB6.out.size))
    have HU7 := Lib.hid (HU6.out.below hb)
    have HSs7 := Lib.hid (HSs6.out.below hb)
    have HSa := Lib.hid (show Calls Try.prog 31 #[.slice sa k sc, .slice (some ⟨ub, uo, none⟩) k uc] w7 fun e w' => e = .returned (.bool true) ∧ Below w7.heap.size w7 w' from
      (refSameAll_any _ _ qs qs w7 HSs7.out HU7.out (by rw [← HK.out]; omega) HSm.out HSm.out).mono fun e w' ⟨r, he, hr, hb⟩ => ⟨by rw [he, hr.2 rfl], hb⟩)
    clear hb
    go_wp2_with fail
    refine HSa.out.mono ?_
    rintro e w8 ⟨rfl, hb⟩
    have HB8 := Lib.hid (HB7.out.trans (hb.mono HB7.out.size))
    clear hb
    go_wp2_with fail
    refine (alive_any _).mono ?_
    rintro e w9 ⟨rfl, hb⟩
    have HB9 := Lib.hid (HB8.out.trans (hb.mono HB8.out.size))
    clear hb
    go_wp2_with fail
    go_ret
    exact ⟨rfl, HB9.out⟩
end Go.Proofs.Ytdcilefiacohnaa
