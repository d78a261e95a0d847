/- The reference's Few. | The reference's NormalClosure and DerivedBy. | The reference's NormalClosure: the walk. | The reference's DerivedBy. | The reference's ClassesBy: the state of the search; its mathematics. | The reference's ClassesBy: the walk. -/
import Derived.Test.YtnnkccfbfjjojaaLAG
import Derived.Test.YtnnkccfbfjjojaaGlaw5
namespace Go.Proofs.Ytnnkccfbfjjojaa
open Go Go.RowKit

/-- the search for generators has passed i elements: fs are the chosen ones, P what is marked -/
structure FewS (ps fs : List (List Int)) (i : Nat) (P : List Int → Prop) : Prop where
  sub : ∀ p ∈ fs, p ∈ ps
  one : 1 ≤ fs.length
  snd : ∀ a, P a → Gen (pks fs) a
  got : ∀ t, t < i → Gen (pks fs) (pk7 (ps.getD t []))
  big : fs.length = 1 ∨ ((∀ a, Gen (pks fs) a → P a) ∧ ∃ q, Lists (ps.getD 0 []).length q (Gen (pks fs)) ∧ 2 ^ (fs.length - 2) ≤ q.length)
theorem pks_sub {ps fs : List (List Int)} (h : ∀ p ∈ fs, p ∈ ps) : ∀ a ∈ pks fs, a ∈ pks ps := fun a ha => by
  obtain ⟨p, hp, rfl⟩ := List.mem_map.1 ha
  exact List.mem_map.2 ⟨p, h p hp, rfl⟩
theorem els_sub {ps fs : List (List Int)} (hg : IsGrp ps) (h : ∀ p ∈ fs, p ∈ ps) : Els (pks fs) := fun a ha => hg.1.els a (pks_sub h a ha)
theorem gen_in {ps fs : List (List Int)} (hg : IsGrp ps) (h : ∀ p ∈ fs, p ∈ ps) {a : List Int} (ha : Gen (pks fs) a) : a ∈ pks ps :=
  hg.2.2 a (ha.sub hg.1.els fun x hx => Gen.of_mem hg.1.els (pks_sub h x hx))
/-- a listed group within a group -/
theorem lists_in {ps fs q : List (List Int)} (hg : IsGrp ps) (h : ∀ p ∈ fs, p ∈ ps) (hq : Lists (ps.getD 0 []).length q (Gen (pks fs))) : IsGrp q ∧ (q.getD 0 []).length = (ps.getD 0 []).length ∧ (∀ a, a ∈ pks q ↔ Gen (pks fs) a) ∧ q.length ≤ ps.length := by
  have hv0 := (validL_iff _).1 (hg.1.2.2 0 hg.1.1).1
  obtain ⟨e1, e2, e3⟩ := hq.grp hv0.1 hg.seven (els_sub hg h) fun a ha => by
    obtain ⟨p, hp, rfl⟩ := List.mem_map.1 (gen_in hg h ha)
    exact ⟨p, (hg.1.mem hp).1, (hg.1.mem hp).2, rfl⟩
  refine ⟨e1, e2, e3, ?_⟩
  have := nodup_le (pks_nodup e1.1 e1.2.1) fun a ha => gen_in hg h ((e3 a).1 ha)
  rwa [pks_len, pks_len] at this
theorem FewS.few {ps fs : List (List Int)} {i : Nat} {P : List Int → Prop} (hg : IsGrp ps) (h : FewS ps fs i P) : fs.length ≤ 14 := by
  rcases h.big with e | ⟨_, q, hq, hb⟩
  · omega
  · have h1 := (lists_in hg h.sub hq).2.2.2
    have h2 := hg.1.2.1
    have h3 : fs.length - 2 < 13 := by
      refine Nat.lt_of_not_le fun hc => ?_
      have := Nat.pow_le_pow_right (n := 2) (by omega) hc
      omega
    omega
theorem sub_genp {ps fs : List (List Int)} (hg : IsGrp ps) (h : ∀ p ∈ fs, p ∈ ps) (h1 : 1 ≤ fs.length) (h2 : fs.length ≤ 5040) : GenP fs ∧ (fs.getD 0 []).length = (ps.getD 0 []).length := by
  have h0 : fs.getD 0 [] ∈ fs := getD_mem h1
  have e0 := (hg.1.mem (h _ h0)).2
  refine ⟨⟨h1, h2, fun i hi => ?_⟩, e0⟩
  obtain ⟨v, l⟩ := hg.1.mem (h _ (getD_mem hi))
  exact ⟨v, l.trans e0.symm⟩
theorem FewS.skip {ps fs : List (List Int)} {i : Nat} {P : List Int → Prop} (h : FewS ps fs i P) (hP : P (pk7 (ps.getD i []))) : FewS ps fs (i + 1) P :=
  ⟨h.sub, h.one, h.snd, fun t ht => by
    by_cases e : t = i
    · rw [e]; exact h.snd _ hP
    · exact h.got t (by omega), h.big⟩
theorem FewS.step {ps fs q : List (List Int)} {i : Nat} {P : List Int → Prop} (hg : IsGrp ps) (h : FewS ps fs i P) (hi : i < ps.length) (hP : ¬ P (pk7 (ps.getD i []))) (hq : Lists (ps.getD 0 []).length q (Gen (pks (fs ++ [ps.getD i []])))) :
    FewS ps (fs ++ [ps.getD i []]) (i + 1) (Gen (pks (fs ++ [ps.getD i []]))) := by
  have hs : ∀ p ∈ fs ++ [ps.getD i []], p ∈ ps := fun p hp => by
    rcases List.mem_append.1 hp with e | e
    · exact h.sub p e
    · rw [List.mem_singleton.1 e]; exact getD_mem hi
  have hE := els_sub hg hs
  have up : ∀ a, Gen (pks fs) a → Gen (pks (fs ++ [ps.getD i []])) a := fun a ha => ha.sub hE fun x hx => by
    obtain ⟨p, hp, rfl⟩ := List.mem_map.1 hx
    exact Gen.of_mem hE (List.mem_map.2 ⟨p, List.mem_append.2 (.inl hp), rfl⟩)
  have me : Gen (pks (fs ++ [ps.getD i []])) (pk7 (ps.getD i [])) := Gen.of_mem hE (List.mem_map.2 ⟨_, by simp, rfl⟩)
  obtain ⟨g1, _, g3, _⟩ := lists_in hg hs hq
  refine ⟨hs, by simp, fun _ => id, fun t ht => ?_, .inr ⟨fun _ => id, q, hq, ?_⟩⟩
  · by_cases e : t = i
    · rw [e]; exact me
    · exact up _ (h.got t (by omega))
  · rw [List.length_append, List.length_singleton]
    by_cases e1 : fs.length = 1
    · rw [e1]; exact g1.1.1
    · obtain ⟨hc, r, hr, hb⟩ := h.big.resolve_left e1
      obtain ⟨k1, _, k3, _⟩ := lists_in hg h.sub hr
      have hd := g1.cl.lagrange k1.cl (pks_nodup g1.1 g1.2.1) (pks_nodup k1.1 k1.2.1) fun a ha => (g3 a).2 (up a ((k3 a).1 ha))
      rw [pks_len, pks_len] at hd
      have hne : ¬ q.length ≤ r.length := fun hle => hP (hc _ ((k3 _).1 (nodup_full (pks_nodup k1.1 k1.2.1) (fun a ha => (g3 a).2 (up a ((k3 a).1 ha))) (by rw [pks_len, pks_len]; exact hle) ((g3 _).2 me))))
      obtain ⟨c, ec⟩ := hd
      have h2 : 2 ≤ c := by
        refine Nat.le_of_not_lt fun hlt => hne ?_
        have : c = 0 ∨ c = 1 := by omega
        rcases this with e | e <;> rw [ec, e] <;> omega
      have h1 := h.one
      have e2 : fs.length + 1 - 2 = (fs.length - 2) + 1 := by omega
      rw [e2, Nat.pow_succ, ec]
      exact Nat.mul_le_mul hb h2
theorem FewS.start {ps : List (List Int)} (hg : IsGrp ps) : FewS ps [ps.getD 0 []] 0 (fun a => a = pk7 (ps.getD 0 [])) := by
  have hs : ∀ p ∈ [ps.getD 0 []], p ∈ ps := fun p hp => by rw [List.mem_singleton.1 hp]; exact getD_mem hg.1.1
  exact ⟨hs, by simp, fun a ha => by rw [ha]; exact Gen.of_mem (els_sub hg hs) (by simp [pks]), fun t ht => by omega, .inl rfl⟩
theorem FewS.end {ps fs : List (List Int)} {P : List Int → Prop} (hg : IsGrp ps) (h : FewS ps fs ps.length P) (a : List Int) : Gen (pks fs) a ↔ a ∈ pks ps := by
  refine ⟨gen_in hg h.sub, fun ha => ?_⟩
  obtain ⟨p, hp, rfl⟩ := List.mem_map.1 ha
  obtain ⟨t, ht, rfl⟩ := List.getElem_of_mem hp
  have := h.got t ht
  rwa [show ps.getD t [] = ps[t] by simp [ht]] at this
/-- the marks of a listed set -/
theorem md_lists {n : Nat} {q : List (List Int)} {P : List Int → Prop} (h : Lists n q P) (h1 : 1 ≤ n) (h7 : n ≤ 7) : MD n (rks q) P := fun p hv hl => by
  rw [rks_mem (n := n) (fun x hx => ⟨((h.mem h1 h7 x).1 hx).1, ((h.mem h1 h7 x).1 hx).2.1⟩) hv hl, h.mem h1 h7]
  exact ⟨fun h => h.2.2, fun h => ⟨hv, hl, h⟩⟩
theorem md_one {n : Nat} {p : List Int} (hv : validL p = true) (hl : p.length = n) : MD n (rks [p]) (fun a => a = pk7 p) := fun q qv ql => by
  rw [rks_mem (n := n) (fun x hx => by rw [List.mem_singleton.1 hx]; exact ⟨hv, hl⟩) qv ql, List.mem_singleton]
  exact ⟨fun h => by rw [h], fun h => pk7_same (ql.trans hl.symm) h⟩

theorem row_setRow {B sz n g : Nat} {w : World} {e t : TypeId} {v : Value} {xs : List Value} {cs ds : Array Value} (h : w.ownsRow B e sz v n xs) (hb : Blk w g t cs) (hne : e ≠ t) : (w.setRow g ds).ownsRow B e sz v n xs := by
  refine ⟨h.1, ?_⟩
  rcases h.2 with h2 | ⟨b, cap, cur, rfl, h3, h4, h5⟩
  · exact .inl h2
  · refine .inr ⟨b, cap, cur, rfl, h3, (setRow_other w g b ds (fun e1 => ?_)).trans h4, h5⟩
    subst e1
    unfold Blk at hb
    rw [hb] at h4
    cases h4
    exact hne rfl
theorem RowS.push {B : Nat} {w wr w' : World} {v v' y : Value} {Qs : List (List Int)} {Q : List Int} {vs : List Value} {o : Obj} (hl : vs.length = Qs.length) (hx : ∀ i, i < Qs.length → Sl w (vs.getD i undef) (Qs.getD i [])) (hy : Sl w y Q)
    (ho : w'.ownsRow B 32 1 v' (Qs.length + 1) (vs ++ [y])) (_ : (wr.alloc o).grownBy w' v.ownBlock) : RowS B w w' v' (Qs ++ [Q]) := by
  refine ⟨vs ++ [y], by simp [hl], by rw [List.length_append]; exact ho, fun j hj => ?_⟩
  rw [List.length_append] at hj
  simp only [List.length_cons, List.length_nil] at hj
  by_cases e : j < Qs.length
  · rw [List.getD_eq_getElem?_getD, List.getElem?_append_left (by omega), ← List.getD_eq_getElem?_getD, List.getD_eq_getElem?_getD (l := Qs ++ [Q]), List.getElem?_append_left e, ← List.getD_eq_getElem?_getD]
    exact hx j e
  · have e0 : j = Qs.length := by omega
    have e1 : (vs ++ [y]).getD j undef = y := by rw [e0, ← hl]; simp
    have e2 : (Qs ++ [Q]).getD j [] = Q := by rw [e0]; simp
    rw [e1, e2]; exact hy
theorem RowS.below {B : Nat} {w wr w' : World} {v : Value} {qs : List (List Int)} (h : RowS B w wr v qs) (hb : Below wr.heap.size wr w') : RowS B w w' v qs := by
  obtain ⟨vs, h1, h2, h3⟩ := h
  exact ⟨vs, h1, row_below h2 hb, h3⟩

set_option maxRecDepth 100000 in
set_option maxHeartbeats 4000000 in
theorem refFew_any (v : Value) (ps : List (List Int)) (w : World) (h : Sps w v ps) (hgg : IsGrp ps) :
    Calls Try.prog 44 #[v] w fun e w' => ∃ x fs P, e = .returned x ∧ RowS w.heap.size w w' x fs ∧ FewS ps fs ps.length P ∧ Below w.heap.size w w' := by
  have hg := hgg.1
  obtain ⟨i1, hq, hq0, hq1, hq2⟩ := info_parts infoPerm3
  obtain ⟨n, hn⟩ : ∃ n, n = (ps.getD 0 []).length := ⟨_, rfl⟩
  have hv0 := (validL_iff _).1 (hg.2.2 0 hg.1).1
  have h1 : 1 ≤ n := by rw [hn]; exact hv0.1
  have h7 : n ≤ 7 := by rw [hn]; exact hv0.2.1
  have HGG := Lib.hid hgg
  obtain ⟨a, cap, rfl, h⟩ := h
  obtain ⟨m, hm⟩ : ∃ m, m = ps.length := ⟨_, rfl⟩
  have hm1 : 1 ≤ m := by rw [hm]; exact hg.1
  have hm2 : m ≤ 5040 := by rw [hm]; exact hg.2.1
  rcases h with h | ⟨b, off, rfl, h⟩
  · rw [h] at hm; simp at hm; omega
  obtain ⟨x0, g0, s0⟩ := h 0 (by omega)
  rw [Nat.add_zero] at g0
  have hbw : b < w.heap.size := World.block_lt_of_cell? w _ g0
  obtain ⟨p0, hp0⟩ : ∃ p0, p0 = ps.getD 0 [] := ⟨_, rfl⟩
  rw [← hp0] at s0 hn
  have hS0 := s0
  obtain ⟨xa, xc, e0, _⟩ := s0
  rw [← hn] at e0
  subst e0
  have HS0 := Lib.hid hS0
  have HP0 := Lib.hid hp0
  have HV0 := Lib.hid (show validL p0 = true ∧ p0.length = n from ⟨by rw [hp0]; exact (hg.2.2 0 hg.1).1, hn.symm⟩)
  have HC := Lib.hid h
  have HM := Lib.hid hm
  have HN := Lib.hid (show n = (ps.getD 0 []).length by rw [← hp0]; exact hn)
  have HG := Lib.hid hg
  rw [← hm]
  obtain ⟨F, hF⟩ : ∃ F, F = fact n := ⟨_, rfl⟩
  obtain ⟨f1, f2⟩ := fact_le n h7
  rw [← hF] at f1 f2
  have HF := Lib.hid hF
  clear hg hgg hv0 h hm hn hF hp0 hS0
  have bb := (Below.refl w.heap.size w).alloc (Nat.le_refl _) (.cells #[.slice xa n xc] 32)
  have R0 := Lib.hid (show RowS w.heap.size w (w.alloc (.cells #[.slice xa n xc] 32)) (.slice (some ⟨w.heap.size, 0, none⟩) 1 1) [p0] from
    ⟨[.slice xa n xc], rfl, ⟨rfl, .inr ⟨w.heap.size, 1, _, rfl, Nat.le_refl _, Blk.new w _ _, Nat.le_refl _, by unfold maxLen; omega, rfl, rfl⟩⟩, fun i hi => by
      have e : i = 0 := by simpa using hi
      subst e; exact HS0.out⟩)
  have B0 := Lib.hid bb
  have c0 : (w.alloc (.cells #[.slice xa n xc] 32)).cell? ⟨b, off, none⟩ = some (.slice xa n xc) := (bb.cell (p := ⟨b, off, none⟩) hbw).trans g0
  clear bb
  go_enter Try.func44, Try.ntmps44
  go_wp2_with fail
  refine (SetOf_any n _ [p0] _ h1 h7 (R0.out.sps B0.out) (fun p hp => by rw [List.mem_singleton.1 hp]; exact HV0.out) (by simp)).mono ?_
  rintro e w1 ⟨g, rfl, hlo, hmk, hb1⟩
  unfold setV
  rw [← HF.out] at hmk ⊢
  have hba := hb1.alloc hb1.size (.cells #[.int .i64 n, .slice (some ⟨g, 0, none⟩) F F] 63)
  have M1 := Lib.hid (hmk.alloc (.cells #[.int .i64 n, .slice (some ⟨g, 0, none⟩) F F] 63))
  have C1 := Lib.hid (Blk.new w1 63 #[.int .i64 n, .slice (some ⟨g, 0, none⟩) F F])
  have R1 := Lib.hid (R0.out.below hba)
  have B1 := Lib.hid (B0.out.trans (hba.mono B0.out.size))
  have HLo := Lib.hid (Nat.le_trans B0.out.size hlo)
  clear hmk hb1 hlo hba R0 B0 c0
  go_wp2_with fail
  obtain ⟨c, hc⟩ : ∃ c, c = w1.heap.size := ⟨_, rfl⟩
  rw [← hc] at C1 ⊢
  have HLc := Lib.hid (show w.heap.size ≤ c from by have h1 := M1.out.lt; have h2 := B1.out.size; have h3 := HLo.out; rw [World.size_alloc] at h1 h2; omega)
  clear hc
  generalize w1.alloc (.cells #[.int .i64 n, .slice (some ⟨g, 0, none⟩) F F] 63) = w2 at *
  have HMd := Lib.hid (md_one HV0.out.1 HV0.out.2)
  have HSt := Lib.hid (show FewS ps [p0] 0 (fun a => a = pk7 p0) by rw [HP0.out]; exact FewS.start HGG.out)
  go_loopw [3, 5] (fun ov iv wr => ∃ (i g : Nat) (fs : List (List Int)) (D : List Int) (P : List Int → Prop), iv = .int .i64 i ∧ i ≤ m ∧ Hid (RowS w.heap.size w wr ov fs) ∧ Hid (Blk wr c 63 #[.int .i64 n, .slice (some ⟨g, 0, none⟩) F F]) ∧ Hid (Blk wr g 4 (mkm F D)) ∧ Hid (MD n D P) ∧ Hid (FewS ps fs i P) ∧ Hid (w.heap.size ≤ g) ∧ Hid (Below w.heap.size w wr)) (fun _ iv _ => m - (intOf iv).toNat)
  case atStart => exact ⟨0, g, [p0], _, _, rfl, Nat.zero_le _, R1, C1, M1, HMd, HSt, HLo, B1⟩
  case round =>
    have HG0 := Lib.hid g0
    clear R1 C1 M1 HMd HSt HLo B1 g0
    obtain ⟨i, g, fs, D, P, rfl, hi, HR, C1, M1, HD, HFs, HLo, B1⟩ := hrel
    by_cases hli : i < m
    · obtain ⟨wo, rfl⟩ : ∃ wo, wo = wr := ⟨wr, rfl⟩
      obtain ⟨x, x0, sx⟩ := HC.out i (by rw [← HM.out]; omega)
      obtain ⟨pv, pl⟩ := HG.out.2.2 i (by rw [← HM.out]; omega)
      rw [← HN.out] at pl
      obtain ⟨p, hp⟩ : ∃ p, p = ps.getD i [] := ⟨_, rfl⟩
      rw [← hp] at sx pv pl
      have HSx := Lib.hid (sx.below B1.out)
      obtain ⟨ya, yc, e1, _⟩ := id sx
      rw [pl] at e1
      subst e1
      have CX := Lib.hid (show ∀ w', Below wo.heap.size wo w' → w'.cell? ⟨b, off + i, none⟩ = some (.slice ya n yc) from fun w' h => ((B1.out.trans (h.mono B1.out.size)).cell (p := ⟨b, off + i, none⟩) hbw).trans x0)
      have SX0 := Lib.hid sx
      have PV := Lib.hid pv
      have PL := Lib.hid pl
      have HP := Lib.hid hp
      have HX0 := Lib.hid x0
      have hR := (unrL_rank pv).2
      rw [pl, ← HF.out] at hR
      obtain ⟨R, hR0⟩ : ∃ R, R = rankL p := ⟨_, rfl⟩
      rw [← hR0] at hR
      have HR0 := Lib.hid hR0
      obtain ⟨z, hz⟩ : ∃ z, z = decide ((R : Int) ∈ D) := ⟨_, rfl⟩
      have HZ := Lib.hid hz
      have MZ := Lib.hid (show ∀ w', Below wo.heap.size wo w' → w'.cell? ⟨g, R, none⟩ = some (.bool z) from fun w' h => by rw [(M1.out.below h).cell R, mkm_get _ _ _ hR, hz])
      have CZ := Lib.hid (show ∀ w', Below wo.heap.size wo w' → w'.cell? ⟨c, 1, none⟩ = some (.slice (some ⟨g, 0, none⟩) F F) from fun w' h => by rw [(C1.out.below h).cell 1]; rfl)
      have HFl := Lib.hid (show (R : Int) ∈ D ↔ P (pk7 (ps.getD i [])) from by rw [hR0, ← hp]; exact HD.out p pv pl)
      clear sx pv pl hp x0 hR0 hz
      have hS : Below wo.heap.size wo wo.drew := below_drewN' (Below.refl _ _) 1
      go_wp2_with fail
      refine wp_region_held_all (S := fun w' => Below wo.heap.size wo w') (by kernel_rfl) ?_
      refine held_take (i := 0) (v := .pointer (some ⟨c, 1, none⟩)) rfl rfl (by kernel_rfl) (by kernel_rfl) (by kernel_rfl) (fun w' h => by go_simp) hS ?_
      refine held_take (i := 1) (v := .slice (some ⟨g, 0, none⟩) F F) rfl rfl (by kernel_rfl) (by kernel_rfl) (by kernel_rfl) (fun w' h => by have h1 := CZ.out w' h; go_simp) hS ?_
      refine held_take (i := 2) (v := .slice (some ⟨b, off, none⟩) m cap) rfl rfl (by kernel_rfl) (by kernel_rfl) (by kernel_rfl) (fun w' h => by go_simp) hS ?_
      refine held_take (i := 3) (v := .int .i64 i) rfl rfl (by kernel_rfl) (by kernel_rfl) (by kernel_rfl) (fun w' h => by go_simp) hS ?_
      refine held_take (i := 4) (v := .pointer (some ⟨b, off + i, none⟩)) rfl rfl (by kernel_rfl) (by kernel_rfl) (by kernel_rfl) (fun w' h => by go_simp) hS ?_
      simp [Act.put]
      refine held_take (i := 5) (v := .slice ya n yc) rfl rfl (by kernel_rfl) (by kernel_rfl) (by kernel_rfl) (fun w' h => by have h1 := CX.out w' h; go_simp) hS ?_
      refine held_only (i := 6) rfl rfl (by kernel_rfl) (wp_call_any 54 Try.func54 (by kernel_rfl) rfl _ _ rfl #[.slice ya n yc] rfl ((refrank_any _ p _ (HSx.out.below hS) (by have := PL.out; omega)).mono ?_))
      rintro e w5 ⟨rfl, j, rfl⟩
      have hS5 : Below wo.heap.size wo (wo.drew.drewN j) := below_drewN' hS j
      rw [← HR0.out]
      generalize wo.drew.drewN j = w5 at *
      refine ⟨_, rfl, hS5, ?_⟩
      clear hS
      simp [Act.put]
      refine held_take (i := 7) (v := .pointer (some ⟨g, R, none⟩)) rfl rfl (by kernel_rfl) (by kernel_rfl) (by kernel_rfl) (fun w' h => by go_simp) hS5 ?_
      refine held_take (i := 8) (v := .bool z) rfl rfl (by kernel_rfl) (by kernel_rfl) (by kernel_rfl) (fun w' h => by have h1 := MZ.out w' h; go_simp) hS5 ?_
      refine held_take (i := 9) (v := .bool (!z)) rfl rfl (by kernel_rfl) (by kernel_rfl) (by kernel_rfl) (fun w' h => by go_simp) hS5 ?_
      refine held_done (by kernel_rfl) ?_
      simp [Act.put]
      have R5 := Lib.hid (HR.out.below hS5)
      have C5 := Lib.hid (C1.out.below hS5)
      have M5 := Lib.hid (M1.out.below hS5)
      have B5 := Lib.hid (B1.out.trans (hS5.mono B1.out.size))
      clear hS5 CX CZ MZ HSx HR C1 M1 B1
      cases z with
      | true =>
        have F6 := Lib.hid (HFs.out.skip (HFl.out.1 (of_decide_eq_true HZ.out.symm)))
        go_wp2_with fail
        go_roundw
        case rel => exact ⟨i + 1, g, fs, D, P, by go_num, by omega, R5, C5, M5, HD, F6, HLo, B5⟩
        case measure => simp [intOf]; omega
      | false =>
        have hnP : ¬ P (pk7 (ps.getD i [])) := fun h => of_decide_eq_false HZ.out.symm (HFl.out.2 h)
        have HnP := Lib.hid hnP
        have c5 : w5.cell? ⟨b, off + i, none⟩ = some (.slice ya n yc) := (B5.out.cell (p := ⟨b, off + i, none⟩) hbw).trans HX0.out
        obtain ⟨vs, o1, o2, o3⟩ := R5.out
        have hfl := HFs.out.few HGG.out
        have O1 := Lib.hid o1
        have O3 := Lib.hid o3
        have hsz := B5.out.size
        clear o1 o3 hnP
        go_wp2_with (at_builtin; go_loud (refine wpList_append_own _ rfl _ _ 22 rfl w.heap.size 32 i1 (.slice none 0 0) 1 24 Try.underlying22 hq hq0 hq1 hq2 rfl (by decide) u3 fs.length vs rfl (o2.alloc _) ⟨w5.heap.size, 0, none⟩ 1 1 [.slice ya n yc] rfl rfl (cell_one_new _ _ _) (by simp [Value.oneCell']) (by unfold maxLen; omega) (by omega) (by simp; omega) ?_; intro v' w6 hown' hgrow _))
        have ht := row_typ (o2.alloc (.cells #[.slice ya n yc] 32))
        have bb := (Below.refl w5.heap.size w5).alloc (Nat.le_refl _) (.cells #[.slice ya n yc] 32)
        have R6 := Lib.hid (show RowS w.heap.size w w6 v' (fs ++ [p]) from RowS.push O1.out O3.out SX0.out hown' hgrow)
        have C6 := Lib.hid ((C5.out.below bb).grown hgrow ht (by decide))
        have B6 := Lib.hid ((B5.out.alloc hsz (.cells #[.slice ya n yc] 32)).grown hgrow (by simp; omega) (fun r e => (o2.lt r e).1))
        clear hown' hgrow ht bb o2 c5
        have hs : ∀ q ∈ fs ++ [p], q ∈ ps := fun q hq => by
          rcases List.mem_append.1 hq with e | e
          · exact HFs.out.sub q e
          · rw [List.mem_singleton.1 e, HP.out]; exact getD_mem (by rw [← HM.out]; exact hli)
        have HGf := Lib.hid (sub_genp HGG.out hs (by simp) (by simp; omega))
        obtain ⟨va, vc, hve, _⟩ := R6.out.sps B6.out
        subst hve
        have HL1 := Lib.hid (show (fs ++ [p]).length = fs.length + 1 by simp)
        clear hs hsz
        rw [HL1.out]
        go_wp2_with fail
        have hS : Below w6.heap.size w6 w6.drew := below_drewN' (Below.refl _ _) 1
        have CY := Lib.hid (show ∀ w', Below w6.heap.size w6 w' → w'.cell? ⟨b, off, none⟩ = some (.slice xa n xc) from fun w' h => ((B6.out.trans (h.mono B6.out.size)).cell (p := ⟨b, off, none⟩) hbw).trans HG0.out)
        refine wp_region_held_then (S := fun w' => Below w6.heap.size w6 w') 7 (by kernel_rfl) (by kernel_rfl) ?_
        simp only [List.take_succ_cons, List.take_zero, List.drop_succ_cons, List.drop_zero]
        refine held_take (i := 0) (v := .slice (some ⟨b, off, none⟩) m cap) rfl rfl (by kernel_rfl) (by kernel_rfl) (by kernel_rfl) (fun w' h => by go_simp) hS ?_
        refine held_take (i := 1) (v := .pointer (some ⟨b, off, none⟩)) rfl rfl (by kernel_rfl) (by kernel_rfl) (by kernel_rfl) (fun w' h => by go_simp; intro h0; omega) hS ?_
        refine held_take (i := 2) (v := .slice xa n xc) rfl rfl (by kernel_rfl) (by kernel_rfl) (by kernel_rfl) (fun w' h => by have h1 := CY.out w' h; go_simp) hS ?_
        refine held_take (i := 3) (v := .int .i64 n) rfl rfl (by kernel_rfl) (by kernel_rfl) (by kernel_rfl) (fun w' h => by go_simp) hS ?_
        refine held_take (i := 4) (v := .slice va (fs.length + 1) vc) rfl rfl (by kernel_rfl) (by kernel_rfl) (by kernel_rfl) (fun w' h => by go_simp) hS ?_
        simp [Act.put]
        refine held_only (i := 5) rfl rfl (by kernel_rfl) (wp_call_any 17 Try.func17 (by kernel_rfl) rfl _ _ rfl #[.slice va (fs.length + 1) vc] rfl ((refClose_any _ (fs ++ [p]) _ (by rw [← HL1.out]; exact (R6.out.below hS).sps (B6.out.trans (hS.mono B6.out.size))) HGf.out.1).mono ?_))
        rintro e w7 ⟨y, s, rfl, ho, hs, hb7⟩
        rw [HGf.out.2, ← HN.out] at ho hs
        have hS7 := hS.trans (hb7.mono hS.size)
        have HSq := Lib.hid ho.sps
        have HLs := Lib.hid (show Lists n (rl n s) (Gen (pks (fs ++ [p]))) from ⟨s, rfl, hs⟩)
        refine ⟨_, rfl, hS7, ?_⟩
        clear hS hb7 ho hs
        simp [Act.put]
        refine held_only (i := 6) rfl rfl (by kernel_rfl) (wp_call_any 53 Try.func53 (by kernel_rfl) rfl _ _ rfl #[.int .i64 n, y] rfl ((SetOf_any n _ (rl n s) _ h1 h7 HSq.out (fun q hq => ⟨((HLs.out.mem h1 h7 q).1 hq).1, ((HLs.out.mem h1 h7 q).1 hq).2.1⟩) (by have := rl_count (n := n) s; rw [← HF.out] at this; omega)).mono ?_))
        rintro e w8 ⟨g2, rfl, hlo, hmk, hb8⟩
        have hS8 := hS7.trans (hb8.mono hS7.size)
        refine ⟨_, rfl, hS8, ?_⟩
        unfold setV
        rw [← HF.out] at hmk ⊢
        refine held_done (by kernel_rfl) ?_
        simp [Act.put]
        have R8 := Lib.hid (R6.out.below hS8)
        have C8 := Lib.hid (C6.out.below hS8)
        have M8 := Lib.hid hmk
        have B8 := Lib.hid (B6.out.trans (hS8.mono B6.out.size))
        have HL8 := Lib.hid (Nat.le_trans (Nat.le_trans B6.out.size hS7.size) hlo)
        clear hS7 hS8 hmk hb8 hlo R6 C6 B6 CY
        refine wpList_store_row rfl 63 _ _ rfl c #[.int .i64 n, .slice (some ⟨g2, 0, none⟩) F F] rfl rfl 63 #[.int .i64 n, .slice (some ⟨g, 0, none⟩) F F] C8.out infoSet rfl (by simp [Value.oneCell']) ?_
        have HBr := Lib.hid (show Below w.heap.size w (w8.setRow c #[.int .i64 n, .slice (some ⟨g2, 0, none⟩) F F]) from below_row B8.out c #[.int .i64 n, .slice (some ⟨g2, 0, none⟩) F F] HLc.out)
        have C9 := Lib.hid (Blk.setRow C8.out #[.int .i64 n, .slice (some ⟨g2, 0, none⟩) F F])
        have M9 := Lib.hid (show Blk (w8.setRow c #[.int .i64 n, .slice (some ⟨g2, 0, none⟩) F F]) g2 4 (mkm F (rks (rl n s))) from (setRow_other w8 c g2 #[.int .i64 n, .slice (some ⟨g2, 0, none⟩) F F] (Blk.ne M8.out C8.out (by decide))).trans M8.out)
        have R9 := Lib.hid (show RowS w.heap.size w (w8.setRow c #[.int .i64 n, .slice (some ⟨g2, 0, none⟩) F F]) (.slice va (fs.length + 1) vc) (fs ++ [p]) from by
          obtain ⟨vs, o1, o2, o3⟩ := R8.out
          exact ⟨vs, o1, by rw [← HL1.out]; exact row_setRow o2 C8.out (by decide), o3⟩)
        have F9 := Lib.hid (show FewS ps (fs ++ [p]) (i + 1) (Gen (pks (fs ++ [p]))) from by
          have h := HFs.out.step HGG.out (by rw [← HM.out]; exact hli) HnP.out (q := rl n s) (by rw [← HN.out, ← HP.out]; exact HLs.out)
          rw [← HP.out] at h
          exact h)
        have D9 := Lib.hid (md_lists HLs.out h1 h7)
        clear R8 C8 M8 B8
        generalize w8.setRow c #[.int .i64 n, .slice (some ⟨g2, 0, none⟩) F F] = w9 at *
        go_wp2_with fail
        go_roundw
        case rel => exact ⟨i + 1, g2, fs ++ [p], _, _, by go_num, by omega, R9, C9, M9, D9, F9, HL8, HBr⟩
        case measure => simp [intOf]; omega
    · have hke : i = ps.length := by rw [← HM.out]; omega
      rw [hke] at HFs
      clear hke
      go_wp2_with fail
      go_ret
      exact ⟨_, fs, P, rfl, HR.out, by rw [HM.out]; exact HFs.out, B1.out⟩
end Go.Proofs.Ytnnkccfbfjjojaa
namespace Go.Proofs.Ytnnkccfbfjjojaa
open Go Go.RowKit

/-- a slice that came in, or one of the call's own -/
def ElP (B : Nat) (w wr : World) (x : Value) (q : List Int) : Prop := Sl w x q ∨ Ow B wr x q
/-- a row of the call's own of such slices -/
def HRow (B : Nat) (w wr : World) (v : Value) (qs : List (List Int)) : Prop := ∃ vs : List Value, vs.length = qs.length ∧ wr.ownsRow B 32 1 v qs.length vs ∧ ∀ i, i < qs.length → ElP B w wr (vs.getD i undef) (qs.getD i [])
theorem ElP.below {B : Nat} {w wr w' : World} {x : Value} {q : List Int} (h : ElP B w wr x q) (hb : Below wr.heap.size wr w') : ElP B w w' x q := h.imp id fun h => row_below h hb
theorem HRow.below {B : Nat} {w wr w' : World} {v : Value} {qs : List (List Int)} (h : HRow B w wr v qs) (hb : Below wr.heap.size wr w') : HRow B w w' v qs := by
  obtain ⟨vs, h1, h2, h3⟩ := h
  exact ⟨vs, h1, row_below h2 hb, fun i hi => (h3 i hi).below hb⟩
theorem HRow.setRow {B g : Nat} {w wr : World} {v : Value} {qs : List (List Int)} {cs ds : Array Value} (h : HRow B w wr v qs) (hb : Blk wr g 63 cs) : HRow B w (wr.setRow g ds) v qs := by
  obtain ⟨vs, h1, h2, h3⟩ := h
  exact ⟨vs, h1, row_setRow h2 hb (by decide), fun i hi => (h3 i hi).imp id fun h => row_setRow h hb (by decide)⟩
theorem ElP.sl {B : Nat} {w wr : World} {x : Value} {q : List Int} (h : ElP B w wr x q) (hb : Below w.heap.size w wr) : Sl wr x q := by
  rcases h with h | h
  · exact h.below hb
  · exact h.sl
theorem HRow.sps {B : Nat} {w wr : World} {v : Value} {qs : List (List Int)} (h : HRow B w wr v qs) (hb : Below w.heap.size w wr) : Sps wr v qs := by
  obtain ⟨vs, h1, h2, h3⟩ := h
  rcases h2.2 with ⟨e, h0⟩ | ⟨g, cap, cur, e, _⟩
  · exact ⟨none, 0, by rw [e, h0], .inl (List.length_eq_zero_iff.1 h0)⟩
  · subst e
    refine ⟨_, cap, rfl, .inr ⟨g, 0, rfl, fun i hi => ⟨vs.getD i undef, ?_, (h3 i hi).sl hb⟩⟩⟩
    rw [Nat.zero_add, World.ownsRow.cellAt h2 i (by omega)]
    simp [show i < vs.length by omega]
theorem HRow.push {B : Nat} {w wr w' : World} {v v' y : Value} {qs : List (List Int)} {q : List Int} {vs : List Value} {o : Obj} (hl : vs.length = qs.length) (h : wr.ownsRow B 32 1 v qs.length vs) (hx : ∀ i, i < qs.length → ElP B w wr (vs.getD i undef) (qs.getD i [])) (hy : ElP B w wr y q)
    (ho : w'.ownsRow B 32 1 v' (qs.length + 1) (vs ++ [y])) (hg : (wr.alloc o).grownBy w' v.ownBlock) : HRow B w w' v' (qs ++ [q]) := by
  have ht : ∀ b, v.ownBlock = some b → ∃ cur, (wr.alloc o).heap[b]? = some (.cells cur 32 (0, 0)) := row_typ (h.alloc _)
  have keep : ∀ {x q}, ElP B w wr x q → ElP B w w' x q := fun {x q} hx => hx.imp id fun hx => row_other (t := 32) (World.ownsRow.alloc hx _) hg ht (by decide)
  refine ⟨vs ++ [y], by simp [hl], by rw [List.length_append]; exact ho, fun j hj => ?_⟩
  rw [List.length_append] at hj
  simp only [List.length_cons, List.length_nil] at hj
  by_cases e : j < qs.length
  · rw [List.getD_eq_getElem?_getD, List.getElem?_append_left (by omega), ← List.getD_eq_getElem?_getD, List.getD_eq_getElem?_getD (l := qs ++ [q]), List.getElem?_append_left e, ← List.getD_eq_getElem?_getD]
    exact keep (hx j e)
  · have e0 : j = qs.length := by omega
    have e1 : (vs ++ [y]).getD j undef = y := by rw [e0, ← hl]; simp
    have e2 : (qs ++ [q]).getD j [] = q := by rw [e0]; simp
    rw [e1, e2]; exact keep hy

/-- the search for the normal closure: hs are the elements so far, the conjugates of the first i with all generators and of number i with the first k are generated -/
structure NCS (ps fs ls hs : List (List Int)) (i k : Nat) : Prop where
  sub : ∀ p ∈ hs, p ∈ ps
  has : ∀ p ∈ ls, p ∈ hs
  der : ∀ p ∈ hs, Gen (comms (pks ps)) (pk7 p)
  done : ∀ s, s < i → ∀ t, t < fs.length → Gen (pks hs) (conjL (pk7 (hs.getD s [])) (pk7 (fs.getD t [])))
  now : ∀ t, t < k → Gen (pks hs) (conjL (pk7 (hs.getD i [])) (pk7 (fs.getD t [])))
  one : 1 ≤ hs.length
  big : ∃ r, hs.length ≤ 1 + ls.length + r ∧ ∃ q, Lists (ps.getD 0 []).length q (Gen (pks hs)) ∧ 2 ^ r ≤ q.length
theorem NCS.len {ps fs ls hs : List (List Int)} {i k : Nat} (hg : IsGrp ps) (h : NCS ps fs ls hs i k) : hs.length ≤ ls.length + 13 := by
  obtain ⟨r, h1, q, hq, hb⟩ := h.big
  have h2 := (lists_in hg h.sub hq).2.2.2
  have h3 := hg.1.2.1
  have h4 : r < 13 := by
    refine Nat.lt_of_not_le fun hc => ?_
    have := Nat.pow_le_pow_right (n := 2) (by omega) hc
    omega
  omega
theorem NCS.has' {ps fs ls hs : List (List Int)} {i k : Nat} (h : NCS ps fs ls hs i k) (hx : Gen (pks hs) (conjL (pk7 (hs.getD i [])) (pk7 (fs.getD k [])))) : NCS ps fs ls hs i (k + 1) :=
  ⟨h.sub, h.has, h.der, h.done, fun t ht => by
    by_cases e : t = k
    · rw [e]; exact hx
    · exact h.now t (by omega), h.one, h.big⟩
theorem NCS.next {ps fs ls hs : List (List Int)} {i : Nat} (h : NCS ps fs ls hs i fs.length) : NCS ps fs ls hs (i + 1) 0 :=
  ⟨h.sub, h.has, h.der, fun s hs' t ht => by
    by_cases e : s = i
    · rw [e]; exact h.now t ht
    · exact h.done s (by omega) t ht, fun t ht => by omega, h.one, h.big⟩
theorem gets_app {V : List (List Int)} (x : List Int) {i : Nat} (h : i < V.length) : (V ++ [x]).getD i [] = V.getD i [] := by
  rw [List.getD_eq_getElem?_getD, List.getElem?_append_left h, ← List.getD_eq_getElem?_getD]
theorem NCS.add {ps fs ls hs q : List (List Int)} {i k : Nat} (hg : IsGrp ps) (h : NCS ps fs ls hs i k) (hf : ∀ p ∈ fs, p ∈ ps) (hi : i < hs.length) (hk : k < fs.length) (hn : ¬ Gen (pks hs) (pk7 (conjP (fs.getD k []) (hs.getD i []))))
    (hq : Lists (ps.getD 0 []).length q (Gen (pks (hs ++ [conjP (fs.getD k []) (hs.getD i [])])))) : NCS ps fs ls (hs ++ [conjP (fs.getD k []) (hs.getD i [])]) i (k + 1) := by
  have m1 := h.sub _ (getD_mem hi)
  have m2 := hf _ (getD_mem hk)
  obtain ⟨v1, l1⟩ := hg.1.mem m1
  obtain ⟨v2, l2⟩ := hg.1.mem m2
  obtain ⟨v3, l3⟩ := conjP_valid v2 v1 (l2.trans l1.symm)
  have ec := pk7_conj v2 v1 (l2.trans l1.symm)
  obtain ⟨x, hx⟩ : ∃ x, x = conjP (fs.getD k []) (hs.getD i []) := ⟨_, rfl⟩
  rw [← hx] at v3 l3 ec hn hq ⊢
  have p1 : pk7 (hs.getD i []) ∈ pks ps := List.mem_map.2 ⟨_, m1, rfl⟩
  have p2 : pk7 (fs.getD k []) ∈ pks ps := List.mem_map.2 ⟨_, m2, rfl⟩
  have gd : Gen (comms (pks ps)) (pk7 x) := by
    rw [ec]
    exact der_conj (gs := pks ps) hg.1.els (fun y => by
      rw [mem_comms]
      exact ⟨fun ⟨u, v, hu, hv, e⟩ => ⟨u, v, Gen.of_mem hg.1.els hu, Gen.of_mem hg.1.els hv, e⟩, fun ⟨u, v, hu, hv, e⟩ => ⟨u, v, hg.2.2 u hu, hg.2.2 v hv, e⟩⟩) (h.der _ (getD_mem hi)) (Gen.of_mem hg.1.els p2)
  have mx : x ∈ ps := by
    have h1 : pk7 x ∈ pks ps := by
      rw [ec]
      have g2 := Gen.of_mem hg.1.els p2
      exact hg.2.2 _ (((g2.inv hg.1.els).mul hg.1.els (Gen.of_mem hg.1.els p1)).mul hg.1.els g2)
    exact (pks_mem hg.1 (l3.trans l2)).1 h1
  have hs' : ∀ p ∈ hs ++ [x], p ∈ ps := fun p hp => by
    rcases List.mem_append.1 hp with e | e
    · exact h.sub p e
    · rw [List.mem_singleton.1 e]; exact mx
  have hE := els_sub hg hs'
  have up : ∀ a, Gen (pks hs) a → Gen (pks (hs ++ [x])) a := fun a ha => ha.sub hE fun y hy => by
    obtain ⟨p, hp, rfl⟩ := List.mem_map.1 hy
    exact Gen.of_mem hE (List.mem_map.2 ⟨p, List.mem_append.2 (.inl hp), rfl⟩)
  have me : Gen (pks (hs ++ [x])) (pk7 x) := Gen.of_mem hE (List.mem_map.2 ⟨_, by simp, rfl⟩)
  obtain ⟨g1, _, g3, _⟩ := lists_in hg hs' hq
  refine ⟨hs', fun p hp => List.mem_append.2 (.inl (h.has p hp)), fun p hp => ?_, fun s hs1 t ht => ?_, fun t ht => ?_, by simp, ?_⟩
  · rcases List.mem_append.1 hp with e | e
    · exact h.der p e
    · rw [List.mem_singleton.1 e]; exact gd
  · rw [gets_app x (by omega)]; exact up _ (h.done s hs1 t ht)
  · rw [gets_app x hi]
    by_cases e : t = k
    · rw [e, ← ec]; exact me
    · exact up _ (h.now t (by omega))
  · obtain ⟨r, b1, q1, hr, hb⟩ := h.big
    obtain ⟨k1, _, k3, _⟩ := lists_in hg h.sub hr
    have hd := g1.cl.lagrange k1.cl (pks_nodup g1.1 g1.2.1) (pks_nodup k1.1 k1.2.1) fun a ha => (g3 a).2 (up a ((k3 a).1 ha))
    rw [pks_len, pks_len] at hd
    have hne : ¬ q.length ≤ q1.length := fun hle => hn ((k3 _).1 (nodup_full (pks_nodup k1.1 k1.2.1) (fun a ha => (g3 a).2 (up a ((k3 a).1 ha))) (by rw [pks_len, pks_len]; exact hle) ((g3 _).2 me)))
    obtain ⟨c, ec⟩ := hd
    have h2 : 2 ≤ c := by
      refine Nat.le_of_not_lt fun hlt => hne ?_
      have : c = 0 ∨ c = 1 := by omega
      rcases this with e | e <;> rw [ec, e] <;> omega
    refine ⟨r + 1, by rw [List.length_append, List.length_singleton]; omega, q, hq, ?_⟩
    rw [Nat.pow_succ, ec]
    exact Nat.mul_le_mul hb h2
/-- at the end: the derived group -/
theorem NCS.end {ps fs ls hs : List (List Int)} (hg : IsGrp ps) (h : NCS ps fs ls hs hs.length 0) (hf : ∀ p ∈ fs, p ∈ ps) (hfe : ∀ a, Gen (pks fs) a ↔ a ∈ pks ps) (hl : ∀ a ∈ fs, ∀ b ∈ fs, commL a b ∈ ls) (x : List Int) : Gen (pks hs) x ↔ Gen (comms (pks ps)) x := by
  refine der_eq (gs := pks fs) (els_sub hg h.sub) (els_sub hg hf) (fun y => ?_) (fun a ha b hb => ?_) (fun d hd g hg' => ?_) (fun d hd => ?_)
  · rw [mem_comms]
    exact ⟨fun ⟨u, v, hu, hv, e⟩ => ⟨u, v, (hfe u).2 hu, (hfe v).2 hv, e⟩, fun ⟨u, v, hu, hv, e⟩ => ⟨u, v, (hfe u).1 hu, (hfe v).1 hv, e⟩⟩
  · obtain ⟨p, hp, rfl⟩ := List.mem_map.1 ha
    obtain ⟨q, hq, rfl⟩ := List.mem_map.1 hb
    obtain ⟨v1, l1⟩ := hg.1.mem (hf p hp)
    obtain ⟨v2, l2⟩ := hg.1.mem (hf q hq)
    rw [← pk7_comm v1 v2 (l1.trans l2.symm)]
    exact Gen.of_mem (els_sub hg h.sub) (List.mem_map.2 ⟨_, h.has _ (hl p hp q hq), rfl⟩)
  · obtain ⟨p, hp, rfl⟩ := List.mem_map.1 hd
    obtain ⟨q, hq, rfl⟩ := List.mem_map.1 hg'
    obtain ⟨s, hs', rfl⟩ := List.getElem_of_mem hp
    obtain ⟨t, ht, rfl⟩ := List.getElem_of_mem hq
    have := h.done s hs' t ht
    rwa [show hs.getD s [] = hs[s] by simp [hs'], show fs.getD t [] = fs[t] by simp [ht]] at this
  · obtain ⟨p, hp, rfl⟩ := List.mem_map.1 hd
    exact h.der p hp

theorem NCS.start {ps fs ls q : List (List Int)} (hg : IsGrp ps) (hl : ∀ p ∈ ls, p ∈ ps ∧ Gen (comms (pks ps)) (pk7 p)) (hq : Lists (ps.getD 0 []).length q (Gen (pks (idL (ps.getD 0 []).length :: ls)))) : NCS ps fs ls (idL (ps.getD 0 []).length :: ls) 0 0 := by
  have hs : ∀ p ∈ idL (ps.getD 0 []).length :: ls, p ∈ ps := fun p hp => by
    rcases List.mem_cons.1 hp with e | e
    · rw [e]; exact ((grp_iff ps).2 hg).2.2.1
    · exact (hl p e).1
  refine ⟨hs, fun p hp => List.mem_cons.2 (.inr hp), fun p hp => ?_, fun s h => by omega, fun t h => by omega, by simp, 0, by simp; omega, q, hq, ?_⟩
  · rcases List.mem_cons.1 hp with e | e
    · rw [e, pk7_id hg.seven]; exact .one
    · exact (hl p e).2
  · exact (lists_in hg hs hq).1.1.1
end Go.Proofs.Ytnnkccfbfjjojaa
namespace Go.Proofs.Ytnnkccfbfjjojaa
open Go Go.RowKit

/-- what the region that makes the first set leaves, in all its orders -/
def CutT (a0 : Act) (B : World) (n F : Nat) (P : List Int → Prop) (a' : Act) (w' : World) : Prop := ∃ (c g : Nat) (y : Value) (s : List Int), a' = ((a0.put (some 23) y).put (some 24) (.agg #[.int .i64 n, .slice (some ⟨g, 0, none⟩) F F])).put (some 6) (.pointer (some ⟨c, 0, none⟩)) ∧
  Below B.heap.size B w' ∧ Blk w' c 63 #[.int .i64 n, .slice (some ⟨g, 0, none⟩) F F] ∧ Blk w' g 4 (mkm F (rks (rl n s))) ∧ B.heap.size ≤ g ∧ B.heap.size ≤ c ∧ Lists n (rl n s) P
theorem conj_in {ps : List (List Int)} (hg : IsGrp ps) {p q : List Int} (m1 : p ∈ ps) (m2 : q ∈ ps) : conjP q p ∈ ps := by
  obtain ⟨v1, l1⟩ := hg.1.mem m1
  obtain ⟨v2, l2⟩ := hg.1.mem m2
  obtain ⟨v3, l3⟩ := conjP_valid v2 v1 (l2.trans l1.symm)
  have h1 : pk7 (conjP q p) ∈ pks ps := by
    rw [pk7_conj v2 v1 (l2.trans l1.symm)]
    have g2 := Gen.of_mem hg.1.els (List.mem_map.2 ⟨q, m2, rfl⟩)
    exact hg.2.2 _ (((g2.inv hg.1.els).mul hg.1.els (Gen.of_mem hg.1.els (List.mem_map.2 ⟨p, m1, rfl⟩))).mul hg.1.els g2)
  exact (pks_mem hg.1 (l3.trans l2)).1 h1
/-- one of those that may come up -/
theorem held_pick {P : Program} {ops : Array Oper} {T : Act → World → Prop} {i : Nat} {oi : Oper} {a : Act} {w : World} {K : Act → World → Prop} (hi : ops[i]? = some oi) (hg : oi.guard = none) (h : oi.wp P a w K (Only T)) : wpOp P ops (Only T) i K a w := by
  have e1 : Region.wanted oi (yielded ops a.tmps) = true := by simp [Region.wanted, hg]
  unfold wpOp
  simp only [hi, e1, if_true]
  exact .inl h
/-- a drawn region, cut at its end: what all its orders leave (T, in words of the act before) goes on once -/
theorem wp_region_cut {P : Program} {S : World → Prop} {Q' : Exit → Act → World → Prop} {id : Nat} {a : Act} {w : World} {l : List Oper} (T : Act → Act → World → Prop) (hm : P.follows .mixedOrders = true)
    (h : wpAnyH P .any l.toArray (Only fun a' w' => T a a' w') S l.length (Array.replicate l.length false) a w.drew) (hT : ∀ a' w', T a a' w' → Q' .normal a' w') : (Code.region id l.toArray true).wp P Q' a w :=
  wp_mono (wp_region_held (S := S) (Q := Only fun a' w' => T a a' w') hm h) fun e a' w' hq => by
    cases e <;> first | exact hT _ _ hq.2 | cases hq.1
theorem wp_alloc_set {o : Oper} {a : Act} {w : World} {K : Act → World → Prop} {Q : Exit → Act → World → Prop} (ho : o.op = .alloc 63) (h : K (a.put o.dst (.pointer (some ⟨w.heap.size, 0, none⟩))) (w.alloc (.cells #[.int .i64 0, .slice none 0 0] 63))) : o.wp Try.prog a w K Q := by
  have e : (execOp a.eval o).run Try.prog w = .ok (.value (.pointer (some ⟨w.heap.size, 0, none⟩))) (w.alloc (.cells #[.int .i64 0, .slice none 0 0] 63)) := by
    unfold execOp; rw [ho]; kernel_rfl
  unfold Oper.wp
  rw [e]
  exact h

set_option maxRecDepth 100000 in
set_option maxHeartbeats 4000000 in
theorem refNC_any (u v : Value) (ps fs ls : List (List Int)) (w : World) (h : Sps w u ls) (k : Sps w v fs) (hgg : IsGrp ps) (hf : ∀ p ∈ fs, p ∈ ps) (f1 : 1 ≤ fs.length) (f2 : fs.length ≤ 14) (hl : ∀ p ∈ ls, p ∈ ps ∧ Gen (comms (pks ps)) (pk7 p)) (l1 : 1 ≤ ls.length) (l2 : ls.length ≤ 196) :
    Calls Try.prog 74 #[u, v] w fun e w' => ∃ x hs D, e = .returned x ∧ Owp w.heap.size w' x (rl (ps.getD 0 []).length D) ∧ Lists (ps.getD 0 []).length (rl (ps.getD 0 []).length D) (Gen (pks hs)) ∧ NCS ps fs ls hs hs.length 0 ∧ Below w.heap.size w w' := by
  have hg := hgg.1
  obtain ⟨i1, hq, hq0, hq1, hq2⟩ := info_parts infoPerm3
  obtain ⟨n, hn⟩ : ∃ n, n = (ps.getD 0 []).length := ⟨_, rfl⟩
  have hv0 := (validL_iff _).1 (hg.2.2 0 hg.1).1
  have h1 : 1 ≤ n := by rw [hn]; exact hv0.1
  have h7 : n ≤ 7 := by rw [hn]; exact hv0.2.1
  rw [← hn]
  have HGG := Lib.hid hgg
  have HF1 := Lib.hid hf
  have HL1 := Lib.hid hl
  have hval : ∀ p ∈ ps, validL p = true ∧ p.length = n := fun p hp => by rw [hn]; exact hg.mem hp
  obtain ⟨a, cap, rfl, k⟩ := k
  obtain ⟨m, hm⟩ : ∃ m, m = fs.length := ⟨_, rfl⟩
  rcases k with k | ⟨b, off, rfl, k⟩
  · rw [k] at hm; simp [k] at f1
  obtain ⟨x0, g0, s0⟩ := k 0 (by omega)
  rw [Nat.add_zero] at g0
  have hbw : b < w.heap.size := World.block_lt_of_cell? w _ g0
  obtain ⟨xa, xc, e0, _⟩ := s0
  rw [(hval _ (hf _ (getD_mem (i := 0) (by omega)))).2] at e0
  subst e0
  obtain ⟨la, lcap, rfl, h⟩ := h
  obtain ⟨N, hN⟩ : ∃ N, N = ls.length := ⟨_, rfl⟩
  rcases h with h | ⟨bl, ol, rfl, h⟩
  · simp [h] at l1
  obtain ⟨news, hnews⟩ : ∃ news : List Value, news = (List.range N).map fun i => (w.cell? ⟨bl, ol + i, none⟩).getD undef := ⟨_, rfl⟩
  have hnl : news.length = N := by rw [hnews]; simp
  have hng : ∀ j, j < N → w.cell? ⟨bl, ol + j, none⟩ = some (news.getD j undef) ∧ Sl w (news.getD j undef) (ls.getD j []) := fun j hj => by
    obtain ⟨x, e1, e2⟩ := h j (by omega)
    have e3 : news.getD j undef = x := by rw [hnews]; simp [hj, e1]
    rw [e3]; exact ⟨e1, e2⟩
  obtain ⟨y0, y1, _⟩ := h 0 (by omega)
  have hblw : bl < w.heap.size := World.block_lt_of_cell? w _ y1
  have HNl := Lib.hid hnl
  have HNg := Lib.hid hng
  have HK := Lib.hid k
  have HM := Lib.hid hm
  have HN := Lib.hid hn
  have HNN := Lib.hid hN
  have HV := Lib.hid hval
  have HG0 := Lib.hid g0
  rw [← hm] at f1 f2 ⊢
  rw [← hN] at l1 l2 ⊢
  obtain ⟨F, hF⟩ : ∃ F, F = fact n := ⟨_, rfl⟩
  obtain ⟨ff1, ff2⟩ := fact_le n h7
  rw [← hF] at ff1 ff2
  have HF := Lib.hid hF
  clear hg hgg hv0 h k hm hn hF hN hnl hng hnews hval hf hl y1
  go_enter Try.func74, Try.ntmps74
  go_wp2_with fail
  refine (refid_blk n _ (by omega)).mono ?_
  rintro e w1 ⟨rfl, hI, hb1⟩
  have HI := Lib.hid (Ow.of_blk hI (Nat.le_refl _) (by rw [length_idL]; omega) n (length_idL n).symm)
  have HB1 := Lib.hid hb1
  clear hI hb1
  obtain ⟨Ia, hIa⟩ : ∃ Ia, Ia = some (⟨w.heap.size, 0, none⟩ : Addr) := ⟨_, rfl⟩
  rw [← hIa] at HI ⊢
  clear hIa
  have bb := HB1.out.alloc HB1.out.size (.cells #[.slice Ia n n] 32)
  have o0 : (w1.alloc (.cells #[.slice Ia n n] 32)).ownsRow w.heap.size 32 1 (.slice (some ⟨w1.heap.size, 0, none⟩) 1 1) 1 [.slice Ia n n] :=
    ⟨rfl, .inr ⟨w1.heap.size, 1, _, rfl, HB1.out.size, Blk.new w1 _ _, Nat.le_refl _, by unfold maxLen; omega, rfl, rfl⟩⟩
  have HO0 := Lib.hid o0
  have BB := Lib.hid bb
  have HI2 := Lib.hid (show Ow w.heap.size (w1.alloc (.cells #[.slice Ia n n] 32)) (.slice Ia n n) (idL n) from World.ownsRow.alloc HI.out _)
  clear o0 bb HB1 HI
  have N1 := Lib.hid (show ∀ j u, news[j]? = some u → (w1.alloc (.cells #[.slice Ia n n] 32)).cell? ((⟨bl, ol, none⟩ : Addr).add j) = some u from fun j u hj => by
    have hjn : j < N := by rw [← HNl.out]; exact (List.getElem?_eq_some_iff.1 hj).1
    have h1 := (HNg.out j hjn).1
    have h2 : news.getD j undef = u := by rw [List.getD_eq_getElem?_getD, hj]; rfl
    rw [h2] at h1
    rw [Go.WideShapes.add_plain]
    exact (BB.out.cell (p := ⟨bl, ol + j, none⟩) hblw).trans h1)
  have N2 := Lib.hid (show ∀ u ∈ news, u.oneCell' = true from fun u hu => by
    obtain ⟨j, hj, rfl⟩ := List.getElem_of_mem hu
    obtain ⟨sa, sc, e, _⟩ := (HNg.out j (by rw [← HNl.out]; exact hj)).2
    rw [show news.getD j undef = news[j] by simp [hj]] at e
    rw [e]; rfl)
  go_wp2_with (at_builtin; go_loud (refine wpList_append_own _ rfl _ _ 22 rfl w.heap.size 32 i1 (.slice none 0 0) 1 24 Try.underlying22 hq hq0 hq1 hq2 rfl (by decide) (.slice (some ⟨w1.heap.size, 0, none⟩) 1 1) 1 [.slice Ia n n] rfl HO0.out ⟨bl, ol, none⟩ N lcap news rfl (by rw [HNl.out, Nat.mul_one]) N1.out N2.out (by unfold maxLen; omega) (by omega) BB.out.size ?_; intro v' w2 hown' hgrow _))
  have R2 := Lib.hid (show HRow w.heap.size w w2 v' (idL n :: ls) from by
    have ht := row_typ HO0.out
    refine ⟨[Value.slice Ia n n] ++ news, by simp [HNl.out, HNN.out], by rw [show (idL n :: ls).length = 1 + N by simp [HNN.out]; omega]; exact hown', fun i hi => ?_⟩
    rcases i with _ | i
    · exact .inr (row_other (t := 32) HI2.out hgrow ht (by decide))
    · have hin : i < N := by rw [HNN.out]; simpa using hi
      have := (HNg.out i hin).2
      exact .inl (by simpa using this))
  have B2 := Lib.hid (BB.out.grown hgrow BB.out.size (fun r e => (World.ownsRow.lt HO0.out r e).1))
  clear hown' hgrow HO0 BB HI2 N1 N2
  obtain ⟨va, vc, hve, _⟩ := R2.out.sps B2.out
  subst hve
  have HL2 := Lib.hid (show (idL n :: ls).length = N + 1 by simp [HNN.out])
  rw [HL2.out] at R2 ⊢
  have HGh := Lib.hid (show GenP (idL n :: ls) ∧ ((idL n :: ls).getD 0 []).length = n from by
    have h := sub_genp HGG.out (fs := idL n :: ls) (fun p hp => by
      rcases List.mem_cons.1 hp with e | e
      · rw [e, HN.out]; exact ((grp_iff ps).2 HGG.out).2.2.1
      · exact (HL1.out p e).1) (by simp) (by rw [HL2.out]; omega)
    rw [← HN.out] at h
    exact h)
  have CY := Lib.hid (show ∀ w', Below w2.heap.size w2 w' → w'.cell? ⟨b, off, none⟩ = some (.slice xa n xc) from fun w' h => ((B2.out.trans (h.mono B2.out.size)).cell (p := ⟨b, off, none⟩) hbw).trans HG0.out)
  have HRs := Lib.hid (show ∀ w', Below w2.heap.size w2 w' → Sps w' (.slice va (N + 1) vc) (idL n :: ls) from fun w' h => (R2.out.below h).sps (B2.out.trans (h.mono B2.out.size)))
  clear g0
  go_wp2_with fail
  have hS : Below w2.heap.size w2 w2.drew := below_drewN' (Below.refl _ _) 1
  refine wp_region_cut (S := fun w' => Below w2.heap.size w2 w') (fun a a' w' => CutT (((((a.put (some 18) (.slice (some ⟨b, off, none⟩) m cap)).put (some 19) (.pointer (some ⟨b, off, none⟩))).put (some 20) (.slice xa n xc)).put (some 21) (.int .i64 n)).put (some 22) (.slice va (N + 1) vc)) w2 n F (Gen (pks (idL n :: ls))) a' w') (by kernel_rfl) ?_ ?_
  · refine held_take (i := 0) (v := .slice (some ⟨b, off, none⟩) m cap) rfl rfl (by kernel_rfl) (by kernel_rfl) (by kernel_rfl) (fun w' h => by go_simp) hS ?_
    refine held_take (i := 1) (v := .pointer (some ⟨b, off, none⟩)) rfl rfl (by kernel_rfl) (by kernel_rfl) (by kernel_rfl) (fun w' h => by go_simp; intro h0; omega) hS ?_
    refine held_take (i := 2) (v := .slice xa n xc) rfl rfl (by kernel_rfl) (by kernel_rfl) (by kernel_rfl) (fun w' h => by have h1 := CY.out w' h; go_simp) hS ?_
    refine held_take (i := 3) (v := .int .i64 n) rfl rfl (by kernel_rfl) (by kernel_rfl) (by kernel_rfl) (fun w' h => by go_simp) hS ?_
    refine held_take (i := 4) (v := .slice va (N + 1) vc) rfl rfl (by kernel_rfl) (by kernel_rfl) (by kernel_rfl) (fun w' h => by go_simp) hS ?_
    simp [Act.put]
    refine wpAnyH_all (rs := [5, 7]) (by kernel_rfl) (by simp) (fun j hj => ?_)
    rcases (show j = 5 ∨ j = 7 by simpa using hj) with rfl | rfl
    · refine held_pick (i := 5) rfl rfl (wp_call_any 17 Try.func17 (by kernel_rfl) rfl _ _ rfl #[.slice va (N + 1) vc] rfl ((refClose_any _ (idL n :: ls) _ (HRs.out _ hS) HGh.out.1).mono ?_))
      rintro e w3 ⟨y, s, rfl, ho, hs, hb3⟩
      rw [HGh.out.2] at ho hs
      have hS3 := hS.trans (hb3.mono hS.size)
      have HSq := Lib.hid ho.sps
      have HLs := Lib.hid (show Lists n (rl n s) (Gen (pks (idL n :: ls))) from ⟨s, rfl, hs⟩)
      refine ⟨_, rfl, hS3, ?_⟩
      simp [Act.put]
      refine wpAnyH_all (rs := [6, 7]) (by kernel_rfl) (by simp) (fun j hj => ?_)
      rcases (show j = 6 ∨ j = 7 by simpa using hj) with rfl | rfl
      · refine held_pick (i := 6) rfl rfl (wp_call_any 53 Try.func53 (by kernel_rfl) rfl _ _ rfl #[.int .i64 n, y] rfl ((SetOf_any n _ (rl n s) _ h1 h7 HSq.out (fun q hq => ⟨((HLs.out.mem h1 h7 q).1 hq).1, ((HLs.out.mem h1 h7 q).1 hq).2.1⟩) (by have := rl_count (n := n) s; rw [← HF.out] at this; omega)).mono ?_))
        rintro e w4 ⟨g, rfl, hlo, hmk, hb4⟩
        have hS4 := hS3.trans (hb4.mono hS3.size)
        refine ⟨_, rfl, hS4, ?_⟩
        unfold setV
        rw [← HF.out] at hmk ⊢
        simp [Act.put]
        refine held_only (i := 7) rfl rfl (by kernel_rfl) (wp_alloc_set rfl ⟨hS4.alloc hS4.size _, ?_⟩)
        have hG := Blk.new w4 63 #[.int .i64 0, .slice none 0 0]
        have hM := Blk.alloc hmk (.cells #[.int .i64 0, .slice none 0 0] 63)
        simp [Act.put]
        refine held_only (i := 8) rfl rfl (by kernel_rfl) (wp_store_row 63 _ _ rfl w4.heap.size #[.int .i64 n, .slice (some ⟨g, 0, none⟩) F F] rfl rfl 63 #[.int .i64 0, .slice none 0 0] hG infoSet rfl (by simp [Value.oneCell']) ⟨below_row (hS4.alloc hS4.size _) w4.heap.size #[.int .i64 n, .slice (some ⟨g, 0, none⟩) F F] hS4.size, held_done (by kernel_rfl) ?_⟩)
        unfold CutT
        exact ⟨w4.heap.size, g, y, s, by simp [Act.put], below_row (hS4.alloc hS4.size _) w4.heap.size #[.int .i64 n, .slice (some ⟨g, 0, none⟩) F F] hS4.size, Blk.setRow hG #[.int .i64 n, .slice (some ⟨g, 0, none⟩) F F], (setRow_other _ w4.heap.size g #[.int .i64 n, .slice (some ⟨g, 0, none⟩) F F] (Blk.ne hM hG (by decide))).trans hM, (Nat.le_trans hS3.size hlo), hS4.size, HLs.out⟩
      · refine held_pick (i := 7) rfl rfl (wp_alloc_set rfl ⟨hS3.alloc hS3.size _, ?_⟩)
        have hG := Blk.new w3 63 #[.int .i64 0, .slice none 0 0]
        have hSa := hS3.alloc hS3.size (.cells #[.int .i64 0, .slice none 0 0] 63)
        simp [Act.put]
        refine held_only (i := 6) rfl rfl (by kernel_rfl) (wp_call_any 53 Try.func53 (by kernel_rfl) rfl _ _ rfl #[.int .i64 n, y] rfl ((SetOf_any n _ (rl n s) _ h1 h7 (HSq.out.below ((Below.refl w3.heap.size w3).alloc (Nat.le_refl _) _)) (fun q hq => ⟨((HLs.out.mem h1 h7 q).1 hq).1, ((HLs.out.mem h1 h7 q).1 hq).2.1⟩) (by have := rl_count (n := n) s; rw [← HF.out] at this; omega)).mono ?_))
        rintro e w4 ⟨g, rfl, hlo, hmk, hb4⟩
        have hS4 := hSa.trans (hb4.mono hSa.size)
        refine ⟨_, rfl, hS4, ?_⟩
        unfold setV
        rw [← HF.out] at hmk ⊢
        simp [Act.put]
        refine held_only (i := 8) rfl rfl (by kernel_rfl) (wp_store_row 63 _ _ rfl w3.heap.size #[.int .i64 n, .slice (some ⟨g, 0, none⟩) F F] rfl rfl 63 #[.int .i64 0, .slice none 0 0] (hG.below hb4) infoSet rfl (by simp [Value.oneCell']) ⟨below_row hS4 w3.heap.size #[.int .i64 n, .slice (some ⟨g, 0, none⟩) F F] hS3.size, held_done (by kernel_rfl) ?_⟩)
        unfold CutT
        exact ⟨w3.heap.size, g, y, s, by simp [Act.put], below_row hS4 w3.heap.size #[.int .i64 n, .slice (some ⟨g, 0, none⟩) F F] hS3.size, Blk.setRow (hG.below hb4) #[.int .i64 n, .slice (some ⟨g, 0, none⟩) F F], (setRow_other _ w3.heap.size g #[.int .i64 n, .slice (some ⟨g, 0, none⟩) F F] (Blk.ne hmk (hG.below hb4) (by decide))).trans hmk, (Nat.le_trans hSa.size hlo), hS3.size, HLs.out⟩
    · refine held_pick (i := 7) rfl rfl (wp_alloc_set rfl ⟨hS.alloc hS.size _, ?_⟩)
      have hG := Blk.new w2.drew 63 #[.int .i64 0, .slice none 0 0]
      have hSa := hS.alloc hS.size (.cells #[.int .i64 0, .slice none 0 0] 63)
      simp [Act.put]
      refine held_only (i := 5) rfl rfl (by kernel_rfl) (wp_call_any 17 Try.func17 (by kernel_rfl) rfl _ _ rfl #[.slice va (N + 1) vc] rfl ((refClose_any _ (idL n :: ls) _ (HRs.out _ hSa) HGh.out.1).mono ?_))
      rintro e w3 ⟨y, s, rfl, ho, hs, hb3⟩
      rw [HGh.out.2] at ho hs
      have hS3 := hSa.trans (hb3.mono hSa.size)
      have HSq := Lib.hid ho.sps
      have HLs := Lib.hid (show Lists n (rl n s) (Gen (pks (idL n :: ls))) from ⟨s, rfl, hs⟩)
      refine ⟨_, rfl, hS3, ?_⟩
      simp [Act.put]
      refine held_only (i := 6) rfl rfl (by kernel_rfl) (wp_call_any 53 Try.func53 (by kernel_rfl) rfl _ _ rfl #[.int .i64 n, y] rfl ((SetOf_any n _ (rl n s) _ h1 h7 HSq.out (fun q hq => ⟨((HLs.out.mem h1 h7 q).1 hq).1, ((HLs.out.mem h1 h7 q).1 hq).2.1⟩) (by have := rl_count (n := n) s; rw [← HF.out] at this; omega)).mono ?_))
      rintro e w4 ⟨g, rfl, hlo, hmk, hb4⟩
      have hS4 := hS3.trans (hb4.mono hS3.size)
      refine ⟨_, rfl, hS4, ?_⟩
      unfold setV
      rw [← HF.out] at hmk ⊢
      simp [Act.put]
      refine held_only (i := 8) rfl rfl (by kernel_rfl) (wp_store_row 63 _ _ rfl w2.drew.heap.size #[.int .i64 n, .slice (some ⟨g, 0, none⟩) F F] rfl rfl 63 #[.int .i64 0, .slice none 0 0] ((hG.below hb3).below hb4) infoSet rfl (by simp [Value.oneCell']) ⟨below_row hS4 w2.drew.heap.size #[.int .i64 n, .slice (some ⟨g, 0, none⟩) F F] hS.size, held_done (by kernel_rfl) ?_⟩)
      unfold CutT
      exact ⟨w2.drew.heap.size, g, y, s, by simp [Act.put], below_row hS4 w2.drew.heap.size #[.int .i64 n, .slice (some ⟨g, 0, none⟩) F F] hS.size, Blk.setRow ((hG.below hb3).below hb4) #[.int .i64 n, .slice (some ⟨g, 0, none⟩) F F], (setRow_other _ w2.drew.heap.size g #[.int .i64 n, .slice (some ⟨g, 0, none⟩) F F] (Blk.ne hmk ((hG.below hb3).below hb4) (by decide))).trans hmk, (Nat.le_trans hS3.size hlo), hS.size, HLs.out⟩
  · intro a' w5 hT
    unfold CutT at hT
    obtain ⟨c, g, y, s, rfl, hb5, hC, hM, hlg, hlc, hls⟩ := hT
    have R5 := Lib.hid (show HRow w.heap.size w w5 (.slice va (N + 1) vc) (idL n :: ls) from R2.out.below hb5)
    have C5 := Lib.hid hC
    have M5 := Lib.hid hM
    have B5 := Lib.hid (B2.out.trans (hb5.mono B2.out.size))
    have HLg := Lib.hid (Nat.le_trans B2.out.size hlg)
    have HLc := Lib.hid (Nat.le_trans B2.out.size hlc)
    have HMd := Lib.hid (md_lists hls h1 h7)
    have HNc := Lib.hid (show NCS ps fs ls (idL n :: ls) 0 0 from by
      have h := NCS.start (fs := fs) HGG.out HL1.out (q := rl n s)
      rw [← HN.out] at h
      exact h hls)
    have hl3 : (idL n :: ls).length ≤ 300 := by rw [HL2.out]; omega
    clear hb5 hC hM hlg hlc hls R2 B2 HRs CY
    simp [Act.put]
    go_wp2_with fail
    go_loopw [5, 7] (fun ov iv wr => ∃ (i g : Nat) (hs : List (List Int)) (D : List Int), iv = .int .i64 i ∧ i ≤ hs.length ∧ hs.length ≤ 300 ∧ Hid (HRow w.heap.size w wr ov hs) ∧ Hid (Blk wr c 63 #[.int .i64 n, .slice (some ⟨g, 0, none⟩) F F]) ∧ Hid (Blk wr g 4 (mkm F D)) ∧ Hid (MD n D (Gen (pks hs))) ∧ Hid (NCS ps fs ls hs i 0) ∧ Hid (w.heap.size ≤ g) ∧ Hid (Below w.heap.size w wr)) (fun _ iv _ => 301 - (intOf iv).toNat)
    case atStart => exact ⟨0, g, _, _, rfl, Nat.zero_le _, hl3, R5, C5, M5, HMd, HNc, HLg, B5⟩
    case round =>
      clear R5 C5 M5 HMd HNc HLg B5 hl3
      obtain ⟨i, g, hs, D, rfl, hi, hl3, HR, C1, M1, HD, HNc, HLo, B1⟩ := hrel
      obtain ⟨gh, ch, rfl⟩ : ∃ gh ch, u5 = .slice (some ⟨gh, 0, none⟩) hs.length ch := by
        obtain ⟨vs, o1, o2, o3⟩ := HR.out
        rcases o2.2 with ⟨_, e⟩ | ⟨gq, cq, cur, e, _⟩
        · have := HNc.out.one; omega
        · exact ⟨gq, cq, e⟩
      by_cases hli : i < hs.length
      · obtain ⟨wo, rfl⟩ : ∃ wo, wo = wr := ⟨wr, rfl⟩
        have HIl := Lib.hid (And.intro hli hl3)
        go_wp2_with fail
        clear hi hli hl3
        go_loopw [5, 8] (fun ov kv wr => ∃ (k g : Nat) (hs : List (List Int)) (D : List Int), kv = .int .i64 k ∧ k ≤ m ∧ Hid (i < hs.length ∧ hs.length ≤ 300) ∧ Hid (HRow w.heap.size w wr ov hs) ∧ Hid (Blk wr c 63 #[.int .i64 n, .slice (some ⟨g, 0, none⟩) F F]) ∧ Hid (Blk wr g 4 (mkm F D)) ∧ Hid (MD n D (Gen (pks hs))) ∧ Hid (NCS ps fs ls hs i k) ∧ Hid (w.heap.size ≤ g) ∧ Hid (Below w.heap.size w wr)) (fun _ kv _ => m - (intOf kv).toNat)
        case atStart => exact ⟨0, g, hs, D, rfl, Nat.zero_le _, HIl, HR, C1, M1, HD, HNc, HLo, B1⟩
        case round =>
          clear HIl HR C1 M1 HD HNc HLo B1
          obtain ⟨k, g, hs, D, rfl, hk, HIl, HR, C1, M1, HD, HNc, HLo, B1⟩ := hrel
          obtain ⟨gh, ch, rfl⟩ : ∃ gh ch, u5 = .slice (some ⟨gh, 0, none⟩) hs.length ch := by
            obtain ⟨vs, o1, o2, o3⟩ := HR.out
            rcases o2.2 with ⟨_, e⟩ | ⟨gq, cq, cur, e, _⟩
            · have := HNc.out.one; omega
            · exact ⟨gq, cq, e⟩
          by_cases hlk : k < m
          · obtain ⟨y, y0, sy⟩ := HK.out k (by rw [← HM.out]; exact hlk)
            have hmq := HF1.out _ (getD_mem (L := fs) (i := k) (by rw [← HM.out]; exact hlk))
            have hmp := HNc.out.sub _ (getD_mem (L := hs) HIl.out.1)
            obtain ⟨qv, ql⟩ := HV.out _ hmq
            obtain ⟨pv, pl⟩ := HV.out _ hmp
            obtain ⟨vs, o1, o2, o3⟩ := HR.out
            obtain ⟨q, hq'⟩ : ∃ q, q = fs.getD k [] := ⟨_, rfl⟩
            obtain ⟨p, hp'⟩ : ∃ p, p = hs.getD i [] := ⟨_, rfl⟩
            have hx := (o3 i HIl.out.1).sl B1.out
            rw [← hq'] at sy qv ql
            rw [← hp'] at hx pv pl
            have c1 : ∀ w', Below wr.heap.size wr w' → w'.cell? ⟨gh, i, none⟩ = some (vs.getD i undef) := fun w' h => row_cell1 (by rw [o1]; exact row_below o2 h) (by rw [o1]; exact HIl.out.1)
            obtain ⟨x, hx'⟩ : ∃ x, x = vs.getD i undef := ⟨_, rfl⟩
            rw [← hx'] at hx c1
            obtain ⟨xa2, xc2, e3, _⟩ := id hx
            rw [pl] at e3
            subst e3
            obtain ⟨ya, yc, e4, _⟩ := id sy
            rw [ql] at e4
            subst e4
            have HSx := Lib.hid hx
            have HSy := Lib.hid (sy.below B1.out)
            have CX := Lib.hid c1
            have CY := Lib.hid (show ∀ w', Below wr.heap.size wr w' → w'.cell? ⟨b, off + k, none⟩ = some (.slice ya n yc) from fun w' h => ((B1.out.trans (h.mono B1.out.size)).cell (p := ⟨b, off + k, none⟩) hbw).trans y0)
            obtain ⟨cv, cl⟩ := conjP_valid qv pv (ql.trans pl.symm)
            rw [ql] at cl
            have hR := (unrL_rank cv).2
            rw [cl, ← HF.out] at hR
            obtain ⟨r, hr0⟩ : ∃ r, r = rankL (conjP q p) := ⟨_, rfl⟩
            rw [← hr0] at hR
            have HR1 := Lib.hid hr0
            have CV := Lib.hid (And.intro cv cl)
            have QV := Lib.hid qv
            have PV := Lib.hid pv
            have QL := Lib.hid (ql.trans pl.symm)
            have HPQ := Lib.hid (And.intro hq' hp')
            obtain ⟨hl, hhl⟩ : ∃ hl, hl = hs.length := ⟨_, rfl⟩
            rw [← hhl] at HIl ⊢
            have HHl := Lib.hid hhl
            have hi1 := HIl.out.1
            have hi2 := HIl.out.2
            obtain ⟨z, hz⟩ : ∃ z, z = decide ((r : Int) ∈ D) := ⟨_, rfl⟩
            have HZ := Lib.hid hz
            have MZ := Lib.hid (show ∀ w', Below wr.heap.size wr w' → w'.cell? ⟨g, r, none⟩ = some (.bool z) from fun w' h => by rw [(M1.out.below h).cell r, mkm_get _ _ _ hR, hz])
            have CZ := Lib.hid (show ∀ w', Below wr.heap.size wr w' → w'.cell? ⟨c, 1, none⟩ = some (.slice (some ⟨g, 0, none⟩) F F) from fun w' h => by rw [(C1.out.below h).cell 1]; rfl)
            have HFl := Lib.hid (show (r : Int) ∈ D ↔ Gen (pks hs) (pk7 (conjP q p)) from by rw [hr0]; exact HD.out _ cv cl)
            have hS : Below wr.heap.size wr wr.drew := below_drewN' (Below.refl _ _) 1
            clear sy y0 qv ql pv pl hq' hp' cv cl hr0 hx c1 hx' o1 o2 o3 hmq hmp hhl hz
            go_wp2_with fail
            refine wp_region_held_all (S := fun w' => Below wr.heap.size wr w') (by kernel_rfl) ?_
            refine held_take (i := 0) (v := .slice (some ⟨b, off, none⟩) m cap) rfl rfl (by kernel_rfl) (by kernel_rfl) (by kernel_rfl) (fun w' h => by go_simp) hS ?_
            refine held_take (i := 1) (v := .int .i64 k) rfl rfl (by kernel_rfl) (by kernel_rfl) (by kernel_rfl) (fun w' h => by go_simp) hS ?_
            refine held_take (i := 2) (v := .pointer (some ⟨b, off + k, none⟩)) rfl rfl (by kernel_rfl) (by kernel_rfl) (by kernel_rfl) (fun w' h => by go_simp) hS ?_
            refine held_take (i := 3) (v := .slice ya n yc) rfl rfl (by kernel_rfl) (by kernel_rfl) (by kernel_rfl) (fun w' h => by have h1 := CY.out w' h; go_simp) hS ?_
            refine held_take (i := 4) (v := .slice (some ⟨gh, 0, none⟩) hl ch) rfl rfl (by kernel_rfl) (by kernel_rfl) (by kernel_rfl) (fun w' h => by go_simp) hS ?_
            simp [Act.put]
            refine held_take (i := 5) (v := .int .i64 i) rfl rfl (by kernel_rfl) (by kernel_rfl) (by kernel_rfl) (fun w' h => by go_simp) hS ?_
            refine held_take (i := 6) (v := .pointer (some ⟨gh, i, none⟩)) rfl rfl (by kernel_rfl) (by kernel_rfl) (by kernel_rfl) (fun w' h => by go_simp) hS ?_
            refine held_take (i := 7) (v := .slice xa2 n xc2) rfl rfl (by kernel_rfl) (by kernel_rfl) (by kernel_rfl) (fun w' h => by have h1 := CX.out w' h; go_simp) hS ?_
            simp [Act.put]
            refine held_only (i := 8) rfl rfl (by kernel_rfl) (wp_call_any 72 Try.func72 (by kernel_rfl) rfl _ _ rfl #[.slice ya n yc, .slice xa2 n xc2] rfl ((refcj_any _ _ q p _ (HSy.out.below hS) (HSx.out.below hS) QV.out PV.out QL.out).mono ?_))
            rintro e w8 ⟨v8, rfl, hv8, hb8⟩
            have hS8 := hS.trans (hb8.mono hS.size)
            have HO8 := Lib.hid (show Ow w.heap.size w8 v8 (conjP q p) from hv8.mono (Nat.le_trans B1.out.size hS.size))
            obtain ⟨va8, vc8, e1, _⟩ := hv8.sl
            rw [CV.out.2] at e1
            subst e1
            refine ⟨_, rfl, hS8, ?_⟩
            clear hv8 hb8
            simp [Act.put]
            refine held_take (i := 9) (v := .slice va8 n vc8) rfl rfl (by kernel_rfl) (by kernel_rfl) (by kernel_rfl) (fun w' h => by go_simp) hS8 ?_
            refine held_done (by kernel_rfl) ?_
            simp [Act.put]
            have CZ8 := Lib.hid (show ∀ w', Below w8.heap.size w8 w' → w'.cell? ⟨c, 1, none⟩ = some (.slice (some ⟨g, 0, none⟩) F F) from fun w' h => CZ.out w' (hS8.trans (h.mono hS8.size)))
            have MZ8 := Lib.hid (show ∀ w', Below w8.heap.size w8 w' → w'.cell? ⟨g, r, none⟩ = some (.bool z) from fun w' h => MZ.out w' (hS8.trans (h.mono hS8.size)))
            have R8 := Lib.hid (HR.out.below hS8)
            have C8 := Lib.hid (C1.out.below hS8)
            have M8 := Lib.hid (M1.out.below hS8)
            have B8 := Lib.hid (B1.out.trans (hS8.mono B1.out.size))
            clear hS hS8 CX CY CZ MZ HSx HSy HR C1 M1 B1
            have hS : Below w8.heap.size w8 w8.drew := below_drewN' (Below.refl _ _) 1
            go_wp2_with fail
            refine wp_region_held_all (S := fun w' => Below w8.heap.size w8 w') (by kernel_rfl) ?_
            refine held_take (i := 0) (v := .pointer (some ⟨c, 1, none⟩)) rfl rfl (by kernel_rfl) (by kernel_rfl) (by kernel_rfl) (fun w' h => by go_simp) hS ?_
            refine held_take (i := 1) (v := .slice (some ⟨g, 0, none⟩) F F) rfl rfl (by kernel_rfl) (by kernel_rfl) (by kernel_rfl) (fun w' h => by have h1 := CZ8.out w' h; go_simp) hS ?_
            refine held_take (i := 2) (v := .slice va8 n vc8) rfl rfl (by kernel_rfl) (by kernel_rfl) (by kernel_rfl) (fun w' h => by go_simp) hS ?_
            simp [Act.put]
            refine held_only (i := 3) rfl rfl (by kernel_rfl) (wp_call_any 54 Try.func54 (by kernel_rfl) rfl _ _ rfl #[.slice va8 n vc8] rfl ((refrank_any _ (conjP q p) _ (HO8.out.sl.below hS) (by have := CV.out.2; omega)).mono ?_))
            rintro e w9 ⟨rfl, j, rfl⟩
            have hS9 : Below w8.heap.size w8 (w8.drew.drewN j) := below_drewN' hS j
            rw [← HR1.out]
            generalize w8.drew.drewN j = w9 at *
            refine ⟨_, rfl, hS9, ?_⟩
            clear hS
            simp [Act.put]
            refine held_take (i := 4) (v := .pointer (some ⟨g, r, none⟩)) rfl rfl (by kernel_rfl) (by kernel_rfl) (by kernel_rfl) (fun w' h => by go_simp) hS9 ?_
            refine held_take (i := 5) (v := .bool z) rfl rfl (by kernel_rfl) (by kernel_rfl) (by kernel_rfl) (fun w' h => by have h1 := MZ8.out w' h; go_simp) hS9 ?_
            refine held_take (i := 6) (v := .bool (!z)) rfl rfl (by kernel_rfl) (by kernel_rfl) (by kernel_rfl) (fun w' h => by go_simp) hS9 ?_
            refine held_done (by kernel_rfl) ?_
            simp [Act.put]
            have R9 := Lib.hid (R8.out.below hS9)
            have C9 := Lib.hid (C8.out.below hS9)
            have M9 := Lib.hid (M8.out.below hS9)
            have O9 := Lib.hid (show Ow w.heap.size w9 (.slice va8 n vc8) (conjP q p) from row_below HO8.out hS9)
            have B9 := Lib.hid (B8.out.trans (hS9.mono B8.out.size))
            clear hS9 CZ8 MZ8 R8 C8 M8 B8 HO8
            cases z with
            | true =>
              have N9 := Lib.hid (HNc.out.has' (by
                have h := HFl.out.1 (of_decide_eq_true HZ.out.symm)
                have e := pk7_conj QV.out PV.out QL.out
                rw [e, HPQ.out.1, HPQ.out.2] at h
                exact h))
              rw [HHl.out] at HIl
              go_wp2_with fail
              go_roundw
              case rel => exact ⟨k + 1, g, hs, D, by go_num, by omega, HIl, by rw [HHl.out]; exact R9, C9, M9, HD, N9, HLo, B9⟩
              case measure => simp [intOf]; omega
            | false =>
              have HnG := Lib.hid (show ¬ Gen (pks hs) (pk7 (conjP (fs.getD k []) (hs.getD i []))) from fun h => by
                rw [← HPQ.out.1, ← HPQ.out.2] at h
                exact of_decide_eq_false HZ.out.symm (HFl.out.2 h))
              obtain ⟨vs, o1, o2, o3⟩ := R9.out
              have oh : w9.ownsRow w.heap.size 32 1 (.slice (some ⟨gh, 0, none⟩) hl ch) hl vs := by rw [HHl.out]; exact o2
              have O1 := Lib.hid o1
              have O2 := Lib.hid o2
              have O3 := Lib.hid o3
              have hsz := B9.out.size
              clear o1 o2 o3
              go_wp2_with (at_builtin; go_loud (refine wpList_append_own _ rfl _ _ 22 rfl w.heap.size 32 i1 (.slice none 0 0) 1 24 Try.underlying22 hq hq0 hq1 hq2 rfl (by decide) (.slice (some ⟨gh, 0, none⟩) hl ch) hl vs rfl (oh.alloc _) ⟨w9.heap.size, 0, none⟩ 1 1 [.slice va8 n vc8] rfl rfl (cell_one_new _ _ _) (by simp [Value.oneCell']) (by unfold maxLen; omega) (by omega) (by simp; omega) ?_; intro v' wa hown' hgrow _))
              have ht := row_typ (oh.alloc (.cells #[.slice va8 n vc8] 32))
              have bb := (Below.refl w9.heap.size w9).alloc (Nat.le_refl _) (.cells #[.slice va8 n vc8] 32)
              have R10 := Lib.hid (show HRow w.heap.size w wa v' (hs ++ [conjP q p]) from HRow.push O1.out O2.out O3.out (.inr O9.out) (by rw [← HHl.out]; exact hown') hgrow)
              have C10 := Lib.hid ((C9.out.below bb).grown hgrow ht (by decide))
              have B10 := Lib.hid ((B9.out.alloc hsz (.cells #[.slice va8 n vc8] 32)).grown hgrow (by simp; omega) (fun r e => (oh.lt r e).1))
              clear hown' hgrow ht bb oh hsz
              have hmq : q ∈ ps := by rw [HPQ.out.1]; exact HF1.out _ (getD_mem (by rw [← HM.out]; exact hlk))
              have hmp : p ∈ ps := by rw [HPQ.out.2]; exact HNc.out.sub _ (getD_mem (by rw [← HHl.out]; exact hi1))
              have hmc := conj_in HGG.out hmp hmq
              have HGp := Lib.hid (sub_genp HGG.out (fs := hs ++ [conjP q p]) (fun x hx => by
                rcases List.mem_append.1 hx with e | e
                · exact HNc.out.sub x e
                · rw [List.mem_singleton.1 e]; exact hmc) (by simp) (by rw [List.length_append, ← HHl.out]; simp; omega))
              clear hmq hmp hmc
              refine (refClose_any _ (hs ++ [conjP q p]) _ (R10.out.sps B10.out) HGp.out.1).mono ?_
              rintro e wb ⟨y2, s2, rfl, ho2, hs2, hb2⟩
              rw [HGp.out.2, ← HN.out] at ho2 hs2
              have HSq := Lib.hid ho2.sps
              have HLs := Lib.hid (show Lists n (rl n s2) (Gen (pks (hs ++ [conjP q p]))) from ⟨s2, rfl, hs2⟩)
              have R11 := Lib.hid (R10.out.below hb2)
              have C11 := Lib.hid (C10.out.below hb2)
              have B11 := Lib.hid (B10.out.trans (hb2.mono B10.out.size))
              clear ho2 hs2 hb2 R10 C10 B10
              go_wp2_with fail
              refine (SetOf_any n _ (rl n s2) _ h1 h7 HSq.out (fun q hq => ⟨((HLs.out.mem h1 h7 q).1 hq).1, ((HLs.out.mem h1 h7 q).1 hq).2.1⟩) (by have := rl_count (n := n) s2; rw [← HF.out] at this; omega)).mono ?_
              rintro e wc ⟨g2, rfl, hlo, hmk, hb3⟩
              unfold setV
              rw [← HF.out] at hmk ⊢
              have R12 := Lib.hid (R11.out.below hb3)
              have C12 := Lib.hid (C11.out.below hb3)
              have M12 := Lib.hid hmk
              have B12 := Lib.hid (B11.out.trans (hb3.mono B11.out.size))
              have HL12 := Lib.hid (Nat.le_trans B11.out.size hlo)
              clear hlo hmk hb3 R11 C11 B11
              go_wp2_with (refine wpList_store_row rfl 63 _ _ rfl c #[.int .i64 n, .slice (some ⟨g2, 0, none⟩) F F] rfl rfl 63 #[.int .i64 n, .slice (some ⟨g, 0, none⟩) F F] C12.out infoSet rfl (by simp [Value.oneCell']) ?_)
              have B13 := Lib.hid (show Below w.heap.size w (wc.setRow c #[.int .i64 n, .slice (some ⟨g2, 0, none⟩) F F]) from below_row B12.out c #[.int .i64 n, .slice (some ⟨g2, 0, none⟩) F F] HLc.out)
              have C13 := Lib.hid (Blk.setRow C12.out #[.int .i64 n, .slice (some ⟨g2, 0, none⟩) F F])
              have M13 := Lib.hid (show Blk (wc.setRow c #[.int .i64 n, .slice (some ⟨g2, 0, none⟩) F F]) g2 4 (mkm F (rks (rl n s2))) from (setRow_other wc c g2 #[.int .i64 n, .slice (some ⟨g2, 0, none⟩) F F] (Blk.ne M12.out C12.out (by decide))).trans M12.out)
              have R13 := Lib.hid (show HRow w.heap.size w (wc.setRow c #[.int .i64 n, .slice (some ⟨g2, 0, none⟩) F F]) v' (hs ++ [conjP q p]) from R12.out.setRow C12.out)
              have D13 := Lib.hid (md_lists HLs.out h1 h7)
              have N13 := Lib.hid (show NCS ps fs ls (hs ++ [conjP q p]) i (k + 1) from by
                have h := HNc.out.add HGG.out HF1.out (by rw [← HHl.out]; exact hi1) (by rw [← HM.out]; exact hlk) HnG.out (q := rl n s2) (by rw [← HN.out, ← HPQ.out.1, ← HPQ.out.2]; exact HLs.out)
                rw [← HPQ.out.1, ← HPQ.out.2] at h
                exact h)
              have I13 := Lib.hid (show i < (hs ++ [conjP q p]).length ∧ (hs ++ [conjP q p]).length ≤ 300 from ⟨by rw [List.length_append, ← HHl.out]; omega, by have := N13.out.len HGG.out; rw [← HNN.out] at this; omega⟩)
              go_roundw
              case rel => exact ⟨k + 1, g2, _, _, by go_num, by omega, I13, R13, C13, M13, D13, N13, HL12, B13⟩
              case measure => simp [intOf]; omega
          · have hke : k = fs.length := by rw [← HM.out]; omega
            have N2 := Lib.hid (show NCS ps fs ls hs (i + 1) 0 from NCS.next (by rw [← hke]; exact HNc.out))
            have hi1 : i + 1 ≤ hs.length := HIl.out.1
            have hi2 := HIl.out.2
            clear hke
            go_wp2_with fail
            go_roundw
            case rel => exact ⟨i + 1, g, hs, D, by go_num, hi1, hi2, HR, C1, M1, HD, N2, HLo, B1⟩
            case measure => simp [intOf]; omega
      · have hke : i = hs.length := by omega
        rw [hke] at HNc
        have mt := M1.out
        rw [HF.out] at mt
        have HCall := Lib.hid (show Calls Try.prog 55 #[.agg #[.int .i64 n, .slice (some ⟨g, 0, none⟩) F F]] wr fun e w' => ∃ x, e = .returned x ∧ Owp wr.heap.size w' x (rl n D) ∧ Below wr.heap.size wr w' from by
          have h := List_any n g D wr h1 h7 mt
          unfold setV at h
          rwa [← HF.out] at h)
        have HLD := Lib.hid (show Lists n (rl n D) (Gen (pks hs)) from ⟨D, rfl, HD.out⟩)
        have k1 : wr.cell? ⟨c, 0, none⟩ = some (.int .i64 n) := by rw [C1.out.cell 0]; rfl
        have k2 : wr.cell? ⟨c, 1, none⟩ = some (.slice (some ⟨g, 0, none⟩) F F) := by rw [C1.out.cell 1]; rfl
        clear hke mt
        go_wp2_with fail
        refine HCall.out.mono ?_
        rintro e w6 ⟨x, rfl, ho, hb⟩
        have HO := Lib.hid (ho.mono B1.out.size)
        have HB := Lib.hid (B1.out.trans (hb.mono B1.out.size))
        clear ho hb
        go_wp2_with fail
        go_ret
        exact ⟨x, hs, D, rfl, HO.out, HLD.out, HNc.out, HB.out⟩
end Go.Proofs.Ytnnkccfbfjjojaa
namespace Go.Proofs.Ytnnkccfbfjjojaa
open Go Go.RowKit

theorem cm_ok {ps fs : List (List Int)} (hg : IsGrp ps) (hf : ∀ p ∈ fs, p ∈ ps) : ∀ p ∈ cmTo fs fs.length 0, p ∈ ps ∧ Gen (comms (pks ps)) (pk7 p) := fun p hp => by
  obtain ⟨a, b, ha, hb, rfl⟩ := (cmTo_mem fs p).1 hp
  obtain ⟨v1, l1⟩ := hg.1.mem (hf a ha)
  obtain ⟨v2, l2⟩ := hg.1.mem (hf b hb)
  obtain ⟨v3, l3⟩ := commL_valid v1 v2 (l1.trans l2.symm)
  have e := pk7_comm v1 v2 (l1.trans l2.symm)
  have m1 : pk7 a ∈ pks ps := List.mem_map.2 ⟨a, hf a ha, rfl⟩
  have m2 : pk7 b ∈ pks ps := List.mem_map.2 ⟨b, hf b hb, rfl⟩
  refine ⟨(pks_mem hg.1 (l3.trans l1)).1 (by rw [e]; exact hg.cl.comm m1 m2), ?_⟩
  rw [e]
  exact Gen.of_mem (els_comms hg.1.els) (mem_comms.2 ⟨_, _, m1, m2, rfl⟩)

set_option maxRecDepth 100000 in
set_option maxHeartbeats 4000000 in
theorem refDBy_any (v : Value) (ps fs : List (List Int)) (w : World) (h : Sps w v fs) (hgg : IsGrp ps) (hf : ∀ p ∈ fs, p ∈ ps) (f1 : 1 ≤ fs.length) (f2 : fs.length ≤ 14) (hfe : ∀ a, Gen (pks fs) a ↔ a ∈ pks ps) :
    Calls Try.prog 43 #[v] w fun e w' => ∃ x d, e = .returned x ∧ Owp w.heap.size w' x d ∧ Lists (ps.getD 0 []).length d (Gen (comms (pks ps))) ∧ Below w.heap.size w w' := by
  obtain ⟨i1, hq, hq0, hq1, hq2⟩ := info_parts infoPerm3
  obtain ⟨n, hn⟩ : ∃ n, n = (ps.getD 0 []).length := ⟨_, rfl⟩
  rw [← hn]
  have hval : ∀ p ∈ ps, validL p = true ∧ p.length = n := fun p hp => by rw [hn]; exact hgg.1.mem hp
  have HGG := Lib.hid hgg
  have HF1 := Lib.hid hf
  have HFe := Lib.hid hfe
  have HS := Lib.hid h
  obtain ⟨a, cap, rfl, k⟩ := h
  obtain ⟨m, hm⟩ : ∃ m, m = fs.length := ⟨_, rfl⟩
  rcases k with k | ⟨b, off, rfl, k⟩
  · simp [k] at f1
  obtain ⟨x0, g0, _⟩ := k 0 (by omega)
  have hbw : b < w.heap.size := World.block_lt_of_cell? w _ g0
  have HK := Lib.hid k
  have HM := Lib.hid hm
  have HN := Lib.hid hn
  have HV := Lib.hid hval
  rw [← hm] at f1 f2 HS ⊢
  clear hgg hf hfe k hm hn hval g0
  go_enter Try.func43, Try.ntmps43
  go_wp2_with fail
  go_loopw [3, 4] (fun lv iv wr => ∃ i : Nat, iv = .int .i64 i ∧ i ≤ m ∧ Hid ((cmTo fs i 0).length = i * m) ∧ Hid (Owp w.heap.size wr lv (cmTo fs i 0)) ∧ Hid (Below w.heap.size w wr)) (fun _ iv _ => m - (intOf iv).toNat)
  case atStart => exact ⟨0, rfl, Nat.zero_le _, Lib.hid (by simp [cmTo]), Lib.hid ⟨[], rfl, World.ownsRow_nil _ _ _ _, fun i hi => by simp [cmTo] at hi⟩, Lib.hid (Below.refl _ _)⟩
  case round =>
    obtain ⟨i, rfl, hi, HLn, HO, HB⟩ := hrel
    by_cases hli : i < m
    · obtain ⟨wo, rfl⟩ : ∃ wo, wo = wr := ⟨wr, rfl⟩
      have HIm := Lib.hid (show i * m ≤ 182 from by
        have h1 : i * m ≤ 13 * 14 := Nat.mul_le_mul (by omega) f2
        omega)
      go_wp2_with fail
      go_loopw [3, 5] (fun lv kv wr => ∃ k : Nat, kv = .int .i64 k ∧ k ≤ m ∧ Hid ((cmTo fs i k).length = i * m + k) ∧ Hid (Owp w.heap.size wr lv (cmTo fs i k)) ∧ Hid (Below w.heap.size w wr)) (fun _ kv _ => m - (intOf kv).toNat)
      case atStart => exact ⟨0, rfl, Nat.zero_le _, HLn, HO, HB⟩
      case round =>
        clear HLn HO HB
        obtain ⟨k, rfl, hk, HLn, HO, HB⟩ := hrel
        by_cases hlk : k < m
        · obtain ⟨x, x0, sx⟩ := HK.out i (by rw [← HM.out]; omega)
          obtain ⟨y, y0, sy⟩ := HK.out k (by rw [← HM.out]; omega)
          obtain ⟨pv, pl⟩ := HV.out _ (HF1.out _ (getD_mem (L := fs) (i := i) (by rw [← HM.out]; exact hli)))
          obtain ⟨qv, ql⟩ := HV.out _ (HF1.out _ (getD_mem (L := fs) (i := k) (by rw [← HM.out]; exact hlk)))
          have hsn := cmTo_snoc (ps := fs) (i := i) (k := k) (by rw [← HM.out]; exact hlk)
          obtain ⟨p, hp⟩ : ∃ p, p = fs.getD i [] := ⟨_, rfl⟩
          obtain ⟨q, hq'⟩ : ∃ q, q = fs.getD k [] := ⟨_, rfl⟩
          rw [← hp] at sx pv pl
          rw [← hq'] at sy qv ql
          rw [← hp, ← hq'] at hsn
          have HSx := Lib.hid sx
          have HSy := Lib.hid sy
          obtain ⟨xa, xc, e1, _⟩ := id sx
          obtain ⟨ya, yc, e2, _⟩ := id sy
          rw [pl] at e1
          rw [ql] at e2
          subst e1 e2
          have CX := Lib.hid (show ∀ w', Below w.heap.size w w' → w'.cell? ⟨b, off + i, none⟩ = some (.slice xa n xc) from fun w' h => (h.cell (p := ⟨b, off + i, none⟩) hbw).trans x0)
          have CY := Lib.hid (show ∀ w', Below w.heap.size w w' → w'.cell? ⟨b, off + k, none⟩ = some (.slice ya n yc) from fun w' h => (h.cell (p := ⟨b, off + k, none⟩) hbw).trans y0)
          have HE := Lib.hid (errP_ok pv qv (pl.trans ql.symm))
          have CL := Lib.hid ((commL_valid pv qv (pl.trans ql.symm)).2.trans pl)
          have HSn := Lib.hid hsn
          obtain ⟨vs, o1, o2, o3⟩ := HO.out
          obtain ⟨la, lc, hle, _⟩ := HO.out.sps
          subst hle
          obtain ⟨C, hC⟩ : ∃ C, C = cmTo fs i k := ⟨_, rfl⟩
          rw [← hC] at o1 o2 o3 HLn HSn ⊢
          obtain ⟨N, hN⟩ : ∃ N, N = C.length := ⟨_, rfl⟩
          have hNl : N ≤ 196 := by rw [hN, HLn.out]; have := HIm.out; omega
          have HNl := Lib.hid hN
          rw [← hN] at o2 ⊢
          have O1 := Lib.hid o1
          have O2 := Lib.hid o2
          have O3 := Lib.hid o3
          have hS : Below w.heap.size w wr.drew := below_drewN' HB.out 1
          have hb0 : Below wr.heap.size wr wr.drew := below_drewN' (Below.refl _ _) 1
          clear x0 sx pv pl hp y0 sy qv ql hq' hsn o1 o2 o3 hC hN HO
          go_wp2_with fail
          refine wp_region_held_all (S := fun w' => Below w.heap.size w w') (by kernel_rfl) ?_
          refine held_take (i := 0) (v := .slice la N lc) rfl rfl (by kernel_rfl) (by kernel_rfl) (by kernel_rfl) (fun w' h => by go_simp) hS ?_
          refine held_take (i := 1) (v := .slice (some ⟨b, off, none⟩) m cap) rfl rfl (by kernel_rfl) (by kernel_rfl) (by kernel_rfl) (fun w' h => by go_simp) hS ?_
          refine held_take (i := 2) (v := .int .i64 i) rfl rfl (by kernel_rfl) (by kernel_rfl) (by kernel_rfl) (fun w' h => by go_simp) hS ?_
          refine held_take (i := 3) (v := .pointer (some ⟨b, off + i, none⟩)) rfl rfl (by kernel_rfl) (by kernel_rfl) (by kernel_rfl) (fun w' h => by go_simp) hS ?_
          refine held_take (i := 4) (v := .slice xa n xc) rfl rfl (by kernel_rfl) (by kernel_rfl) (by kernel_rfl) (fun w' h => by have h1 := CX.out w' h; go_simp) hS ?_
          simp [Act.put]
          refine held_take (i := 5) (v := .slice (some ⟨b, off, none⟩) m cap) rfl rfl (by kernel_rfl) (by kernel_rfl) (by kernel_rfl) (fun w' h => by go_simp) hS ?_
          refine held_take (i := 6) (v := .int .i64 k) rfl rfl (by kernel_rfl) (by kernel_rfl) (by kernel_rfl) (fun w' h => by go_simp) hS ?_
          refine held_take (i := 7) (v := .pointer (some ⟨b, off + k, none⟩)) rfl rfl (by kernel_rfl) (by kernel_rfl) (by kernel_rfl) (fun w' h => by go_simp) hS ?_
          refine held_take (i := 8) (v := .slice ya n yc) rfl rfl (by kernel_rfl) (by kernel_rfl) (by kernel_rfl) (fun w' h => by have h1 := CY.out w' h; go_simp) hS ?_
          simp [Act.put]
          refine held_only (i := 9) rfl rfl (by kernel_rfl) (wp_call_any 41 Try.func41 (by kernel_rfl) rfl _ _ rfl #[.slice xa n xc, .slice ya n yc] rfl ((refcomm_any _ _ p q _ (HSx.out.below hS) (HSy.out.below hS) HE.out).mono ?_))
          rintro e w5 ⟨v5, rfl, hv, hb5⟩
          have hS5 := hS.trans (hb5.mono hS.size)
          have hb6 := hb0.trans (hb5.mono hb0.size)
          have HVv := Lib.hid (show Ow w.heap.size w5 v5 (commL p q) from hv.mono hS.size)
          obtain ⟨va, vc, e1, _⟩ := hv.sl
          rw [CL.out] at e1
          subst e1
          refine ⟨_, rfl, hS5, ?_⟩
          simp [Act.put]
          have o2 : w5.ownsRow w.heap.size 32 1 (.slice la N lc) N vs := row_below O2.out hb6
          have HO5 := Lib.hid (show ∀ i, i < C.length → Ow w.heap.size w5 (vs.getD i undef) (C.getD i []) from fun i hi => row_below (O3.out i hi) hb6)
          have HB5 := Lib.hid hS5
          have hsz := hS5.size
          clear hv hb5 hb6 hS hb0
          refine held_only (i := 10) rfl rfl (by kernel_rfl) ?_
          go_simp
          refine ⟨HB5.out.alloc hsz _, ?_⟩
          refine held_only (i := 11) rfl rfl (by kernel_rfl) (wp_append_own _ _ _ 22 rfl w.heap.size 32 i1 (.slice none 0 0) 1 24 Try.underlying22 hq hq0 hq1 hq2 rfl (by decide) (.slice la N lc) N vs rfl (o2.alloc _) ⟨w5.heap.size, 0, none⟩ 1 1 [.slice va n vc] rfl rfl (cell_one_new _ _ _) (by simp [Value.oneCell']) (by unfold maxLen; omega) (by omega) (by simp; omega) ?_)
          intro v' w6 hown' hgrow _
          have R6 := Lib.hid (show Owp w.heap.size w6 v' (cmTo fs i (k + 1)) from by
            rw [HSn.out]
            exact Owp.push O1.out (by rw [← HNl.out]; exact o2) HO5.out HVv.out (by rw [← HNl.out]; exact hown') hgrow)
          have B6 := Lib.hid ((HB5.out.alloc hsz (.cells #[.slice va n vc] 32)).grown hgrow (by simp; omega) (fun r e => (o2.lt r e).1))
          have L6 := Lib.hid (show (cmTo fs i (k + 1)).length = i * m + (k + 1) from by rw [HSn.out, List.length_append, HLn.out]; simp; omega)
          clear hown' hgrow o2
          refine ⟨B6.out, ?_⟩
          simp [Act.put]
          refine held_take (i := 12) (v := v') rfl rfl (by kernel_rfl) (by kernel_rfl) (by kernel_rfl) (fun w' h => by go_simp) B6.out ?_
          refine held_done (by kernel_rfl) ?_
          simp [Act.put]
          go_wp2_with fail
          go_roundw
          case rel => exact ⟨k + 1, by go_num, by omega, L6, R6, B6⟩
          case measure => simp [intOf]; omega
        · have hke : k = fs.length := by rw [← HM.out]; omega
          have hcn := cmTo_next (ps := fs) (i := i) (by rw [← HM.out]; exact hli)
          have L6 := Lib.hid (show (cmTo fs (i + 1) 0).length = (i + 1) * m from by rw [← hcn, ← hke, HLn.out, Nat.succ_mul, hke, HM.out])
          have R6 := HO.out
          rw [hke, hcn] at R6
          have HR6 := Lib.hid R6
          clear hke hcn R6
          go_wp2_with fail
          go_roundw
          case rel => exact ⟨i + 1, by go_num, by omega, L6, HR6, HB⟩
          case measure => simp [intOf]; omega
    · have hke : i = fs.length := by rw [← HM.out]; omega
      rw [hke] at HO HLn
      have HSl := Lib.hid HO.out.sps
      have hmm : 1 ≤ fs.length * m ∧ fs.length * m ≤ 196 := by
        rw [← HM.out]
        have h1 : 1 * 1 ≤ m * m := Nat.mul_le_mul f1 f1
        have h2 : m * m ≤ 14 * 14 := Nat.mul_le_mul f2 f2
        omega
      have HMM := Lib.hid hmm
      clear hke hmm
      go_wp2_with fail
      refine (refNC_any _ _ ps fs _ _ HSl.out (HS.out.below HB.out) HGG.out HF1.out (by rw [← HM.out]; exact f1) (by rw [← HM.out]; exact f2) (cm_ok HGG.out HF1.out) (by rw [HLn.out]; exact HMM.out.1) (by rw [HLn.out]; exact HMM.out.2)).mono ?_
      rintro e w4 ⟨x, hs, D, rfl, ho, hls, hnc, hb⟩
      rw [← HN.out] at ho hls
      have HO2 := Lib.hid (ho.mono HB.out.size)
      have HL2 := Lib.hid (hls.congr (hnc.end HGG.out HF1.out HFe.out fun a ha b hb => (cmTo_mem fs _).2 ⟨a, b, ha, hb, rfl⟩))
      have HB2 := Lib.hid (HB.out.trans (hb.mono HB.out.size))
      clear ho hls hnc hb
      go_wp2_with fail
      go_ret
      exact ⟨x, _, rfl, HO2.out, HL2.out, HB2.out⟩
end Go.Proofs.Ytnnkccfbfjjojaa
namespace Go.Proofs.Ytnnkccfbfjjojaa
open Go Go.RowKit

/-- all that lay in wo, block g aside, lies as it did -/
def Kept (g : Nat) (wo wr : World) : Prop := ∀ b, b < wo.heap.size → b ≠ g → wr.heap[b]? = wo.heap[b]?
theorem Kept.row {B sz n g : Nat} {wo wr : World} {e t : TypeId} {v : Value} {xs : List Value} {cs : Array Value} (k : Kept g wo wr) (h : wo.ownsRow B e sz v n xs) (hg : Blk wo g t cs) (hne : e ≠ t) : wr.ownsRow B e sz v n xs := by
  refine ⟨h.1, ?_⟩
  rcases h.2 with hn | ⟨b, cap, cur, rfl, hb, hc, rest⟩
  · exact .inl hn
  · refine .inr ⟨b, cap, cur, rfl, hb, ?_, rest⟩
    rw [k b (Array.getElem?_eq_some_iff.1 hc).1 (fun e1 => ?_)]
    · exact hc
    · subst e1
      unfold Blk at hg
      rw [hc] at hg
      cases hg
      exact hne rfl
theorem Kept.qrow {B g : Nat} {wo wr : World} {v : Value} {Qs : List (List (List Int))} {cs : Array Value} (k : Kept g wo wr) (h : QRow B wo v Qs) (hg : Blk wo g 4 cs) : QRow B wr v Qs := by
  obtain ⟨xs, h1, h2, h3⟩ := h
  refine ⟨xs, h1, k.row h2 hg (by decide), fun i hi => ?_⟩
  obtain ⟨vs, a, b, c⟩ := h3 i hi
  exact ⟨vs, a, k.row b hg (by decide), fun j hj => k.row (c j hj) hg (by decide)⟩
theorem Kept.refl (g : Nat) (w : World) : Kept g w w := fun _ _ _ => rfl
theorem Kept.below {g : Nat} {wo wr w' : World} (k : Kept g wo wr) (hs : wo.heap.size ≤ wr.heap.size) (hb : Below wr.heap.size wr w') : Kept g wo w' := fun b h1 h2 => (hb.block b (Nat.lt_of_lt_of_le h1 hs)).trans (k b h1 h2)
theorem Kept.setCell {g i j : Nat} {u : Value} {wo wr : World} (k : Kept g wo wr) (h : j = g ∨ wo.heap.size ≤ j) : Kept g wo (wr.setCell ⟨j, i, none⟩ u) := fun b h1 h2 =>
  (heap_setCell_other wr ⟨j, i, none⟩ b u (fun e1 => by
    have e1 : b = j := e1
    rcases h with h | h
    · exact h2 (e1.trans h)
    · omega)).trans (k b h1 h2)
theorem Kept.grown {g : Nat} {row : Option Nat} {wo wr w' : World} (k : Kept g wo wr) (hs : wo.heap.size ≤ wr.heap.size) (hg : wr.grownBy w' row) (hr : ∀ r, row = some r → wo.heap.size ≤ r) : Kept g wo w' := fun b h1 h2 =>
  (hg.block b (Nat.lt_of_lt_of_le h1 hs) fun e => by have := hr b e.symm; omega).trans (k b h1 h2)

/-- the state of the search for a class: the marks of all classes in block g (D0), the set in block ct, its marks in block gt, the queue tv -/
structure BSt (c g ct gt n : Nat) (D0 : List Int) (w wo wr : World) (tv : Value) (V T : List (List Int)) (xs : List Value) : Prop where
  st : Blk wr c 63 #[.int .i64 n, .slice (some ⟨g, 0, none⟩) (fact n) (fact n)]
  mrk : Blk wr g 4 (mkm (fact n) D0)
  su : Blk wr ct 63 #[.int .i64 n, .slice (some ⟨gt, 0, none⟩) (fact n) (fact n)]
  mru : Blk wr gt 4 (mkm (fact n) (rks V))
  qu : Que wo.heap.size wr 32 tv xs
  ln : xs.length = T.length
  rw : ∀ i, i < T.length → ElP w.heap.size w wr (xs.getD i undef) (T.getD i [])
  kp : Kept g wo wr
  sz : wo.heap.size ≤ wr.heap.size
  be : Below w.heap.size w wr
  lg : w.heap.size ≤ g
  lt : wo.heap.size ≤ gt
  ww : w.heap.size ≤ wo.heap.size
  gn : g < wo.heap.size

section
variable {c g ct gt n : Nat} {D0 : List Int} {w wo wr w' : World} {tv tv' x y : Value} {V T : List (List Int)} {xs : List Value} {p q : List Int}
theorem BSt.below (h : BSt c g ct gt n D0 w wo wr tv V T xs) (hb : Below wr.heap.size wr w') : BSt c g ct gt n D0 w wo w' tv V T xs :=
  ⟨h.st.below hb, h.mrk.below hb, h.su.below hb, h.mru.below hb, h.qu.below hb, h.ln, fun i hi => (h.rw i hi).below hb, h.kp.below h.sz hb, Nat.le_trans h.sz hb.size, h.be.trans (hb.mono h.be.size), h.lg, h.lt, h.ww, h.gn⟩
theorem BSt.pop {b k cap N : Nat} (h : BSt c g ct gt n D0 w wo wr (.slice (some ⟨b, k, none⟩) (N + 1) cap) V (p :: T) (x :: xs)) : BSt c g ct gt n D0 w wo wr (.slice (if cap = 1 then some ⟨b, k, none⟩ else some ⟨b, k + 1, none⟩) N (cap - 1)) V T xs :=
  ⟨h.st, h.mrk, h.su, h.mru, h.qu.tail, by have := h.ln; simpa using this, fun i hi => by have := h.rw (i + 1) (by simpa using hi); simpa using this, h.kp, h.sz, h.be, h.lg, h.lt, h.ww, h.gn⟩
theorem BSt.mark (h : BSt c g ct gt n D0 w wo wr tv V T xs) (R : Nat) : BSt c g ct gt n (D0 ++ [(R : Int)]) w wo (wr.setCell ⟨g, R, none⟩ (.bool true)) tv V T xs := by
  have hgt : gt ≠ g := fun e => by have := h.lt; have := h.gn; omega
  refine ⟨h.st.other g R _ (h.st.ne h.mrk (by decide)), ?_, h.su.other g R _ (h.su.ne h.mrk (by decide)), h.mru.other g R _ hgt, que_set h.qu h.mrk (by decide), h.ln, fun i hi => (h.rw i hi).imp id fun k => row_set k h.mrk (by decide), h.kp.setCell (.inl rfl), by simpa using h.sz, h.be.setCell h.lg _, h.lg, h.lt, h.ww, h.gn⟩
  rw [← mkm_set]
  exact h.mrk.set R (.bool true)
theorem BSt.push (h : BSt c g ct gt n D0 w wo wr tv V T xs) (hy : Ow w.heap.size wr y q) (tmp : Value) (ho : Que wo.heap.size w' 32 tv' (xs ++ [y])) (hg : ((wr.setCell ⟨gt, rankL q, none⟩ (.bool true)).alloc (.cells #[tmp] 32)).grownBy w' tv.ownBlock) : BSt c g ct gt n D0 w wo w' tv' (V ++ [q]) (T ++ [q]) (xs ++ [y]) := by
  have q1 := que_set (i := rankL q) (u := .bool true) h.qu h.mru (by decide)
  have ht : ∀ b, tv.ownBlock = some b → ∃ cur, ((wr.setCell ⟨gt, rankL q, none⟩ (.bool true)).alloc (.cells #[tmp] 32)).heap[b]? = some (.cells cur 32 (0, 0)) := (q1.below ((Below.refl _ _).alloc (Nat.le_refl _) (.cells #[tmp] 32))).typ
  have keep : ∀ {u r}, Ow w.heap.size wr u r → Ow w.heap.size w' u r := fun {u r} hx => row_other (t := 32) (World.ownsRow.alloc (row_set hx h.mru (by decide)) _) hg ht (by decide)
  have hcg : c ≠ gt := h.st.ne h.mru (by decide)
  have hct : ct ≠ gt := h.su.ne h.mru (by decide)
  have hgg : g ≠ gt := fun e => by have := h.lt; have := h.gn; omega
  have hs1 : wo.heap.size ≤ ((wr.setCell ⟨gt, rankL q, none⟩ (.bool true)).alloc (.cells #[tmp] 32)).heap.size := by rw [World.size_alloc]; have := h.sz; simp; omega
  have b1 : Below w.heap.size w (wr.setCell ⟨gt, rankL q, none⟩ (.bool true)) := h.be.setCell (Nat.le_trans h.ww h.lt) _
  have k1 : Kept g wo ((wr.setCell ⟨gt, rankL q, none⟩ (.bool true)).alloc (.cells #[tmp] 32)) := (h.kp.setCell (i := rankL q) (u := .bool true) (.inr h.lt)).below (by simpa using h.sz) ((Below.refl _ _).alloc (Nat.le_refl _) _)
  refine ⟨((h.st.other gt (rankL q) (.bool true) hcg).alloc _).grown hg ht (by decide), ((h.mrk.other gt (rankL q) (.bool true) hgg).alloc _).grown hg ht (by decide), ((h.su.other gt (rankL q) (.bool true) hct).alloc _).grown hg ht (by decide), ?_, ho, by simp [h.ln], fun i hi => ?_, k1.grown hs1 hg (fun r e => (h.qu.lt r e).1), Nat.le_trans hs1 hg.size, ?_, h.lg, h.lt, h.ww, h.gn⟩
  · rw [rks_snoc, ← mkm_set]
    exact ((h.mru.set (rankL q) (.bool true)).alloc _).grown hg ht (by decide)
  · rw [List.length_append] at hi
    simp only [List.length_cons, List.length_nil] at hi
    have hl := h.ln
    by_cases e : i < T.length
    · have e1 : (xs ++ [y]).getD i undef = xs.getD i undef := by simp [List.getD_eq_getElem?_getD, List.getElem?_append_left (show i < xs.length by omega)]
      have e2 : (T ++ [q]).getD i [] = T.getD i [] := by simp [List.getD_eq_getElem?_getD, List.getElem?_append_left e]
      rw [e1, e2]; exact (h.rw i e).imp id keep
    · have e0 : i = T.length := by omega
      have e1 : (xs ++ [y]).getD i undef = y := by rw [e0, ← hl]; simp
      have e2 : (T ++ [q]).getD i [] = q := by rw [e0]; simp
      rw [e1, e2]; exact .inr (keep hy)
  · have hz := b1.size
    exact (b1.alloc hz (.cells #[tmp] 32)).grown hg (by rw [World.size_alloc]; omega) (fun r e => Nat.le_trans h.ww (h.qu.lt r e).1)
/-- a row's element stays when the queue grows -/
theorem BSt.keep {u : Value} {r : List Int} (h : BSt c g ct gt n D0 w wo wr tv V T xs) (hx : ElP w.heap.size w wr u r) (R : Nat) (tmp : Value) (hg : ((wr.setCell ⟨gt, R, none⟩ (.bool true)).alloc (.cells #[tmp] 32)).grownBy w' tv.ownBlock) : ElP w.heap.size w w' u r := by
  have q1 := que_set (i := R) (u := .bool true) h.qu h.mru (by decide)
  have ht : ∀ b, tv.ownBlock = some b → ∃ cur, ((wr.setCell ⟨gt, R, none⟩ (.bool true)).alloc (.cells #[tmp] 32)).heap[b]? = some (.cells cur 32 (0, 0)) := (q1.below ((Below.refl _ _).alloc (Nat.le_refl _) (.cells #[tmp] 32))).typ
  exact hx.imp id fun hx => row_other (t := 32) (World.ownsRow.alloc (row_set hx h.mru (by decide)) _) hg ht (by decide)
end

/-- the search for the class of p: D is done, T waits -/
structure CBS (ps fs : List (List Int)) (p : List Int) (D T : List (List Int)) (j : Nat) : Prop where
  val : ∀ q ∈ D ++ T, q ∈ ps
  orb : Orb (pks fs) (pk7 p) (pks (D ++ T)) D.length j
theorem CBS.len {ps fs D T : List (List Int)} {p : List Int} {j : Nat} (h : CBS ps fs p D T j) : (D ++ T).length ≤ 823543 := by
  have := h.orb.len
  rwa [pks_len] at this
theorem CBS.start {ps : List (List Int)} (fs : List (List Int)) {p : List Int} (hg : IsGrp ps) (hp : p ∈ ps) : CBS ps fs p [] [p] 0 :=
  ⟨fun q hq => by rw [List.mem_singleton.1 hq]; exact hp, Orb.start (pks fs) (hg.1.els _ (List.mem_map.2 ⟨p, hp, rfl⟩))⟩
theorem CBS.mul {ps fs D T : List (List Int)} {p q : List Int} {j : Nat} (hg : IsGrp ps) (hf : ∀ p ∈ fs, p ∈ ps) (h : CBS ps fs p D (q :: T) j) (hj : j < fs.length) : pk7 (conjP (fs.getD j []) q) = conjL ((pks (D ++ q :: T)).getD D.length []) ((pks fs).getD j []) := by
  have m1 := h.val q (by simp)
  have m2 := hf _ (getD_mem hj)
  obtain ⟨v1, l1⟩ := hg.1.mem m1
  obtain ⟨v2, l2⟩ := hg.1.mem m2
  rw [pk7_conj v2 v1 (l2.trans l1.symm), pks_getD hj, pks_getD (by simp)]
  simp
theorem CBS.has {ps fs D T : List (List Int)} {p q : List Int} {j : Nat} (hg : IsGrp ps) (hf : ∀ p ∈ fs, p ∈ ps) (h : CBS ps fs p D (q :: T) j) (hj : j < fs.length) (hm : conjP (fs.getD j []) q ∈ D ++ q :: T) : CBS ps fs p D (q :: T) (j + 1) :=
  ⟨h.val, h.orb.has (by rw [← CBS.mul hg hf h hj]; exact List.mem_map.2 ⟨_, hm, rfl⟩)⟩
theorem pk7_in {ps D : List (List Int)} {q : List Int} (hg : IsGrp ps) (hD : ∀ q ∈ D, q ∈ ps) (hq : q.length = (ps.getD 0 []).length) : pk7 q ∈ pks D ↔ q ∈ D := by
  refine ⟨fun h => ?_, fun h => List.mem_map.2 ⟨q, h, rfl⟩⟩
  obtain ⟨r, hr, e⟩ := List.mem_map.1 h
  rw [← pk7_same ((hg.1.mem (hD r hr)).2.trans hq.symm) e]
  exact hr
theorem CBS.add {ps fs D T : List (List Int)} {p q : List Int} {j : Nat} (hg : IsGrp ps) (hf : ∀ p ∈ fs, p ∈ ps) (hp : p ∈ ps) (h : CBS ps fs p D (q :: T) j) (hj : j < fs.length) (hm : ¬ conjP (fs.getD j []) q ∈ D ++ q :: T) : CBS ps fs p D (q :: (T ++ [conjP (fs.getD j []) q])) (j + 1) := by
  have m1 := h.val q (by simp)
  have m2 := hf _ (getD_mem hj)
  have m3 := conj_in hg m1 m2
  have e := CBS.mul hg hf h hj
  have e3 : D ++ q :: (T ++ [conjP (fs.getD j []) q]) = (D ++ q :: T) ++ [conjP (fs.getD j []) q] := by simp
  refine ⟨fun x hx => ?_, ?_⟩
  · rw [e3] at hx
    rcases List.mem_append.1 hx with k | k
    · exact h.val x k
    · rw [List.mem_singleton.1 k]; exact m3
  · have := h.orb.add (els_sub hg hf) (hg.1.els _ (List.mem_map.2 ⟨p, hp, rfl⟩)) (by rw [pks_len]; simp) (by rw [pks_len]; exact hj) (by rw [← e, pk7_in hg h.val (hg.1.mem m3).2]; exact hm)
    rw [← e] at this
    rw [e3]
    unfold pks at this ⊢
    rw [List.map_append]
    exact this
theorem CBS.next {ps fs D T : List (List Int)} {p q : List Int} (h : CBS ps fs p D (q :: T) fs.length) : CBS ps fs p (D ++ [q]) T 0 := by
  have e : D ++ [q] ++ T = D ++ q :: T := by simp
  refine ⟨by rw [e]; exact h.val, ?_⟩
  rw [e, List.length_append]
  have := h.orb
  rw [← pks_len fs] at this
  exact this.next
theorem CBS.end {ps fs D : List (List Int)} {p : List Int} (hg : IsGrp ps) (hf : ∀ p ∈ fs, p ∈ ps) (hfe : ∀ a, Gen (pks fs) a ↔ a ∈ pks ps) (hp : p ∈ ps) (h : CBS ps fs p D [] 0) (q : List Int) (hv : validL q = true) (hl : q.length = (ps.getD 0 []).length) : (rankL q : Int) ∈ rks D ↔ pk7 q ∈ clsOf (pks ps) (pk7 p) := by
  have ho := h.orb
  have hval := h.val
  rw [List.append_nil] at ho hval
  have hE := hg.1.els _ (List.mem_map.2 ⟨p, hp, rfl⟩)
  rw [rks_mem (fun x hx => ⟨(hg.1.mem (hval x hx)).1, (hg.1.mem (hval x hx)).2⟩) hv hl, ← pk7_in hg hval hl]
  rw [show D.length = (pks D).length from (pks_len D).symm] at ho
  rw [ho.end (els_sub hg hf) hE]
  unfold clsOf
  rw [List.mem_filter, decide_eq_true_iff, List.mem_map]
  constructor
  · rintro ⟨y, hy, e⟩
    have m1 := (hfe y).1 hy
    refine ⟨?_, y, m1, e.symm⟩
    rw [e]
    have g1 := Gen.of_mem hg.1.els m1
    exact hg.2.2 _ (((g1.inv hg.1.els).mul hg.1.els (Gen.of_mem hg.1.els (List.mem_map.2 ⟨p, hp, rfl⟩))).mul hg.1.els g1)
  · rintro ⟨_, y, hy, e⟩
    exact ⟨y, (hfe y).2 hy, e.symm⟩
theorem cby_list {ps D : List (List Int)} (hg : IsGrp ps) {p : List Int} (h : ∀ q, validL q = true → q.length = (ps.getD 0 []).length → ((rankL q : Int) ∈ rks D ↔ pk7 q ∈ clsOf (pks ps) (pk7 p))) : rl (ps.getD 0 []).length (rks D) = (clsOf (pks ps) (pk7 p)).map (List.take (ps.getD 0 []).length) := by
  have hv0 := (validL_iff _).1 (hg.1.2.2 0 hg.1.1).1
  obtain ⟨e1, e2⟩ := pks_rise (grp_len hg) (grp_pair hg)
  refine (perms_lists (L := clsOf (pks ps) (pk7 p)) (P := fun a => a ∈ clsOf (pks ps) (pk7 p)) hv0.1 hg.seven (List.Perm.refl _) (List.Pairwise.filter _ e2) (e1.filter _) (fun a ha => ?_) ⟨_, rfl, h⟩ (fun q _ _ => Iff.rfl)).symm
  obtain ⟨q, hq, rfl⟩ := List.mem_map.1 (List.mem_filter.1 ha).1
  exact ⟨q, (hg.1.mem hq).1, (hg.1.mem hq).2, rfl⟩
end Go.Proofs.Ytnnkccfbfjjojaa
namespace Go.Proofs.Ytnnkccfbfjjojaa
open Go Go.RowKit

/-- what the region that makes a class's set leaves, in all its orders -/
def CutB (a0 : Act) (B : World) (n F : Nat) (p : List Int) (a' : Act) (w' : World) : Prop := ∃ (s ct gt : Nat), a' = ((a0.put (some 42) (.slice (some ⟨s, 0, none⟩) 1 1)).put (some 43) (.agg #[.int .i64 n, .slice (some ⟨gt, 0, none⟩) F F])).put (some 8) (.pointer (some ⟨ct, 0, none⟩)) ∧
  Below B.heap.size B w' ∧ Blk w' ct 63 #[.int .i64 n, .slice (some ⟨gt, 0, none⟩) F F] ∧ Blk w' gt 4 (mkm F (rks [p])) ∧ B.heap.size ≤ gt ∧ B.heap.size ≤ ct
theorem sps_one {w : World} {x : Value} {p : List Int} (h : Sl w x p) : Sps (w.alloc (.cells #[x] 32)) (.slice (some ⟨w.heap.size, 0, none⟩) 1 1) [p] :=
  ⟨_, 1, rfl, .inr ⟨w.heap.size, 0, rfl, fun i hi => ⟨x, by
    have e : i = 0 := by simpa using hi
    subst e
    exact (Blk.new w 32 #[x]).cell 0, by
    have e : i = 0 := by simpa using hi
    subst e
    exact h.below ((Below.refl _ w).alloc (Nat.le_refl _) _)⟩⟩⟩

set_option maxRecDepth 100000 in
set_option maxHeartbeats 8000000 in
theorem refCBy_any (u v : Value) (ps fs : List (List Int)) (w : World) (h : Sps w u ps) (kf : Sps w v fs) (hgg : IsGrp ps) (hf : ∀ p ∈ fs, p ∈ ps) (f1 : 1 ≤ fs.length) (f2 : fs.length ≤ 14) (hfe : ∀ a, Gen (pks fs) a ↔ a ∈ pks ps) :
    Calls Try.prog 45 #[u, v] w fun e w' => ∃ x, e = .returned x ∧ QRow w.heap.size w' x (clsR ps ps.length) ∧ Below w.heap.size w w' := by
  have hg := hgg.1
  obtain ⟨i0, hi0, hz0, hz1, hz2⟩ := info_parts infoPs
  obtain ⟨i1, hq, hq0, hq1, hq2⟩ := info_parts infoPerm3
  obtain ⟨n, hn⟩ : ∃ n, n = (ps.getD 0 []).length := ⟨_, rfl⟩
  have hv0 := (validL_iff _).1 (hg.2.2 0 hg.1).1
  have h1 : 1 ≤ n := by rw [hn]; exact hv0.1
  have h7 : n ≤ 7 := by rw [hn]; exact hv0.2.1
  have HGG := Lib.hid hgg
  have HF1 := Lib.hid hf
  have HFe := Lib.hid hfe
  obtain ⟨a, cap, rfl, h⟩ := h
  obtain ⟨fa, fcap, rfl, kf⟩ := kf
  obtain ⟨m, hm⟩ : ∃ m, m = ps.length := ⟨_, rfl⟩
  obtain ⟨l, hl⟩ : ∃ l, l = fs.length := ⟨_, rfl⟩
  have hm1 : 1 ≤ m := by rw [hm]; exact hg.1
  have hm2 : m ≤ 5040 := by rw [hm]; exact hg.2.1
  rcases h with h | ⟨b, off, rfl, h⟩
  · rw [h] at hm; simp at hm; omega
  rcases kf with kf | ⟨fb, fo, rfl, kf⟩
  · rw [kf] at f1; simp at f1
  obtain ⟨x0, g0, s0⟩ := h 0 (by omega)
  rw [Nat.add_zero] at g0
  have hbw : b < w.heap.size := World.block_lt_of_cell? w _ g0
  obtain ⟨y0, g1, _⟩ := kf 0 (by omega)
  have hfw : fb < w.heap.size := World.block_lt_of_cell? w _ g1
  obtain ⟨xa0, xc0, rfl, _⟩ := s0
  have HC := Lib.hid h
  have HK := Lib.hid kf
  have HM := Lib.hid hm
  have HL := Lib.hid hl
  have HN := Lib.hid hn
  have HG := Lib.hid hg
  rw [← hn] at g0
  rw [← hl] at f1 f2
  rw [← hm, ← hl]
  obtain ⟨F, hF⟩ : ∃ F, F = fact n := ⟨_, rfl⟩
  obtain ⟨ff1, ff2⟩ := fact_le n h7
  rw [← hF] at ff1 ff2
  have HF := Lib.hid hF
  clear hg hgg hv0 h kf hm hl hn hF hf hfe g1
  go_enter Try.func45, Try.ntmps45
  go_wp2_with fail
  refine (SetOf_any n (.slice none 0 0) [] _ h1 h7 ⟨none, 0, rfl, .inl rfl⟩ (fun p hp => by simp at hp) (by simp)).mono ?_
  rintro e w1 ⟨g, rfl, hlo, hmk, hb1⟩
  unfold setV
  rw [← HF.out] at hmk ⊢
  have M1 := Lib.hid (show Blk _ g 4 (mkm F []) from hmk.alloc (.cells #[.int .i64 n, .slice (some ⟨g, 0, none⟩) F F] 63))
  have C1 := Lib.hid (Blk.new w1 63 #[.int .i64 n, .slice (some ⟨g, 0, none⟩) F F])
  have B1 := Lib.hid (hb1.alloc hb1.size (.cells #[.int .i64 n, .slice (some ⟨g, 0, none⟩) F F] 63))
  have HLo := Lib.hid hlo
  clear hmk hb1 hlo
  go_wp2_with fail
  obtain ⟨c, hc⟩ : ∃ c, c = w1.heap.size := ⟨_, rfl⟩
  rw [← hc] at C1 ⊢
  have HCg := Lib.hid (C1.out.ne M1.out (by decide))
  clear hc
  generalize w1.alloc (.cells #[.int .i64 n, .slice (some ⟨g, 0, none⟩) F F] 63) = w2 at *
  go_loopw [5, 7] (fun ov iv wr => ∃ (i : Nat) (D : List Int), iv = .int .i64 i ∧ i ≤ m ∧ Hid (QRow w.heap.size wr ov (clsR ps i)) ∧ Hid (Blk wr c 63 #[.int .i64 n, .slice (some ⟨g, 0, none⟩) F F]) ∧ Hid (Blk wr g 4 (mkm F D)) ∧ Hid (MD n D fun a => a ∈ (clsTo (pks ps) i).flatten) ∧ Hid (Below w.heap.size w wr)) (fun _ iv _ => m - (intOf iv).toNat)
  case atStart => exact ⟨0, [], rfl, Nat.zero_le _, Lib.hid (QRow.nil _ _), C1, M1, Lib.hid (fun q _ _ => by simp [clsTo]), B1⟩
  case round =>
    have HG0 := Lib.hid g0
    clear C1 M1 B1 g0
    obtain ⟨i, D, rfl, hi, HR, C1, M1, HD, B1⟩ := hrel
    by_cases hli : i < m
    · obtain ⟨wo, rfl⟩ : ∃ wo, wo = wr := ⟨wr, rfl⟩
      obtain ⟨x, x0, sx⟩ := HC.out i (by rw [← HM.out]; omega)
      obtain ⟨pv, pl⟩ := HG.out.2.2 i (by rw [← HM.out]; omega)
      rw [← HN.out] at pl
      have hpm : ps.getD i [] ∈ ps := by have : i < ps.length := by rw [← HM.out]; exact hli
                                         simp [this]
      obtain ⟨p, hp⟩ : ∃ p, p = ps.getD i [] := ⟨_, rfl⟩
      rw [← hp] at sx pv pl hpm
      have HSx := Lib.hid (sx.below B1.out)
      obtain ⟨xa, xc, e1, _⟩ := id sx
      rw [pl] at e1
      subst e1
      have CX := Lib.hid (show ∀ w', Below wo.heap.size wo w' → w'.cell? ⟨b, off + i, none⟩ = some (.slice xa n xc) from fun w' h => ((B1.out.trans (h.mono B1.out.size)).cell (p := ⟨b, off + i, none⟩) hbw).trans x0)
      have SX0 := Lib.hid sx
      have HX0 := Lib.hid x0
      have PV := Lib.hid pv
      have PL := Lib.hid pl
      have HP := Lib.hid hp
      have HPM := Lib.hid hpm
      have hR := (unrL_rank pv).2
      rw [pl, ← HF.out] at hR
      obtain ⟨R, hR0⟩ : ∃ R, R = rankL p := ⟨_, rfl⟩
      rw [← hR0] at hR
      have HR0 := Lib.hid hR0
      obtain ⟨z, hz⟩ : ∃ z, z = decide ((R : Int) ∈ D) := ⟨_, rfl⟩
      have HZ := Lib.hid hz
      have MZ := Lib.hid (show ∀ w', Below wo.heap.size wo w' → w'.cell? ⟨g, R, none⟩ = some (.bool z) from fun w' h => by rw [(M1.out.below h).cell R, mkm_get _ _ _ hR, hz])
      have CZ := Lib.hid (show ∀ w', Below wo.heap.size wo w' → w'.cell? ⟨c, 1, none⟩ = some (.slice (some ⟨g, 0, none⟩) F F) from fun w' h => by rw [(C1.out.below h).cell 1]; rfl)
      clear sx pv pl hp hpm x0 hR0 hz
      have hS : Below wo.heap.size wo wo.drew := below_drewN' (Below.refl _ _) 1
      go_wp2_with fail
      refine wp_region_held_all (S := fun w' => Below wo.heap.size wo w') (by kernel_rfl) ?_
      refine held_take (i := 0) (v := .pointer (some ⟨c, 1, none⟩)) rfl rfl (by kernel_rfl) (by kernel_rfl) (by kernel_rfl) (fun w' h => by go_simp) hS ?_
      refine held_take (i := 1) (v := .slice (some ⟨g, 0, none⟩) F F) rfl rfl (by kernel_rfl) (by kernel_rfl) (by kernel_rfl) (fun w' h => by have h1 := CZ.out w' h; go_simp) hS ?_
      refine held_take (i := 2) (v := .slice (some ⟨b, off, none⟩) m cap) rfl rfl (by kernel_rfl) (by kernel_rfl) (by kernel_rfl) (fun w' h => by go_simp) hS ?_
      refine held_take (i := 3) (v := .int .i64 i) rfl rfl (by kernel_rfl) (by kernel_rfl) (by kernel_rfl) (fun w' h => by go_simp) hS ?_
      refine held_take (i := 4) (v := .pointer (some ⟨b, off + i, none⟩)) rfl rfl (by kernel_rfl) (by kernel_rfl) (by kernel_rfl) (fun w' h => by go_simp) hS ?_
      simp [Act.put]
      refine held_take (i := 5) (v := .slice xa n xc) rfl rfl (by kernel_rfl) (by kernel_rfl) (by kernel_rfl) (fun w' h => by have h1 := CX.out w' h; go_simp) hS ?_
      refine held_only (i := 6) rfl rfl (by kernel_rfl) (wp_call_any 54 Try.func54 (by kernel_rfl) rfl _ _ rfl #[.slice xa n xc] rfl ((refrank_any _ p _ (HSx.out.below hS) (by have := PL.out; omega)).mono ?_))
      rintro e w5 ⟨rfl, j, rfl⟩
      have hS5 : Below wo.heap.size wo (wo.drew.drewN j) := below_drewN' hS j
      rw [← HR0.out]
      generalize wo.drew.drewN j = w5 at *
      refine ⟨_, rfl, hS5, ?_⟩
      clear hS
      simp [Act.put]
      refine held_take (i := 7) (v := .pointer (some ⟨g, R, none⟩)) rfl rfl (by kernel_rfl) (by kernel_rfl) (by kernel_rfl) (fun w' h => by go_simp) hS5 ?_
      refine held_take (i := 8) (v := .bool z) rfl rfl (by kernel_rfl) (by kernel_rfl) (by kernel_rfl) (fun w' h => by have h1 := MZ.out w' h; go_simp) hS5 ?_
      refine held_done (by kernel_rfl) ?_
      simp [Act.put]
      have R5 := Lib.hid (HR.out.below hS5)
      have C5 := Lib.hid (C1.out.below hS5)
      have M5 := Lib.hid (M1.out.below hS5)
      have B5 := Lib.hid (B1.out.trans (hS5.mono B1.out.size))
      clear hS5 CX CZ MZ HSx HR C1 M1 B1
      have HFl := Lib.hid (show (R : Int) ∈ D ↔ pk7 (ps.getD i []) ∈ (clsTo (pks ps) i).flatten from by rw [HR0.out, ← HP.out]; exact HD.out p PV.out PL.out)
      cases z with
      | true =>
        have hcl := cls_same (ps := ps) (i := i) (by rw [← HM.out]; exact hli) (HFl.out.1 (of_decide_eq_true HZ.out.symm))
        have R6 := Lib.hid (show QRow w.heap.size _ _ (clsR ps (i + 1)) by unfold clsR; rw [hcl]; exact R5.out)
        have D6 := Lib.hid (show MD n D fun a => a ∈ (clsTo (pks ps) (i + 1)).flatten by rw [hcl]; exact HD.out)
        clear hcl
        go_wp2_with fail
        go_roundw
        case rel => exact ⟨i + 1, D, by go_num, by omega, R6, C5, M5, D6, B5⟩
        case measure => simp [intOf]; omega
      | false =>
        have HCl := Lib.hid (cls_more (ps := ps) (i := i) (by rw [← HM.out]; exact hli) fun h => of_decide_eq_false HZ.out.symm (HFl.out.2 h))
        have C0 := Lib.hid (show ∀ w', Below w5.heap.size w5 w' → w'.cell? ⟨b, off, none⟩ = some _ from fun w' h => ((B5.out.trans (h.mono B5.out.size)).cell (p := ⟨b, off, none⟩) hbw).trans HG0.out)
        have CX := Lib.hid (show ∀ w', Below w5.heap.size w5 w' → w'.cell? ⟨b, off + i, none⟩ = some (.slice xa n xc) from fun w' h => ((B5.out.trans (h.mono B5.out.size)).cell (p := ⟨b, off + i, none⟩) hbw).trans HX0.out)
        have HSx := Lib.hid (SX0.out.below B5.out)
        have hS : Below w5.heap.size w5 w5.drew := below_drewN' (Below.refl _ _) 1
        go_wp2_with fail
        refine wp_region_cut (S := fun w' => Below w5.heap.size w5 w') (fun a a' w' => CutB ((((((((a.put (some 34) (.slice (some ⟨b, off, none⟩) m cap)).put (some 35) (.pointer (some ⟨b, off, none⟩))).put (some 36) (.slice xa0 n xc0)).put (some 37) (.int .i64 n)).put (some 38) (.slice (some ⟨b, off, none⟩) m cap)).put (some 39) (.int .i64 i)).put (some 40) (.pointer (some ⟨b, off + i, none⟩))).put (some 41) (.slice xa n xc)) w5 n F p a' w') (by kernel_rfl) ?_ ?_
        · refine held_take (i := 0) (v := .slice (some ⟨b, off, none⟩) m cap) rfl rfl (by kernel_rfl) (by kernel_rfl) (by kernel_rfl) (fun w' h => by go_simp) hS ?_
          refine held_take (i := 1) (v := .pointer (some ⟨b, off, none⟩)) rfl rfl (by kernel_rfl) (by kernel_rfl) (by kernel_rfl) (fun w' h => by go_simp; intro h0; omega) hS ?_
          refine held_take (i := 2) (v := .slice xa0 n xc0) rfl rfl (by kernel_rfl) (by kernel_rfl) (by kernel_rfl) (fun w' h => by have h1 := C0.out w' h; go_simp) hS ?_
          refine held_take (i := 3) (v := .int .i64 n) rfl rfl (by kernel_rfl) (by kernel_rfl) (by kernel_rfl) (fun w' h => by go_simp) hS ?_
          simp [Act.put]
          refine held_take (i := 4) (v := .slice (some ⟨b, off, none⟩) m cap) rfl rfl (by kernel_rfl) (by kernel_rfl) (by kernel_rfl) (fun w' h => by go_simp) hS ?_
          refine held_take (i := 5) (v := .int .i64 i) rfl rfl (by kernel_rfl) (by kernel_rfl) (by kernel_rfl) (fun w' h => by go_simp) hS ?_
          refine held_take (i := 6) (v := .pointer (some ⟨b, off + i, none⟩)) rfl rfl (by kernel_rfl) (by kernel_rfl) (by kernel_rfl) (fun w' h => by go_simp) hS ?_
          refine held_take (i := 7) (v := .slice xa n xc) rfl rfl (by kernel_rfl) (by kernel_rfl) (by kernel_rfl) (fun w' h => by have h1 := CX.out w' h; go_simp) hS ?_
          simp [Act.put]
          have HV1 := Lib.hid (show ∀ q ∈ [p], validL q = true ∧ q.length = n from fun q hq => by rw [List.mem_singleton.1 hq]; exact ⟨PV.out, PL.out⟩)
          have hr1 : rks [p] = rks [p] := rfl
          refine wpAnyH_all (rs := [8, 10]) (by kernel_rfl) (by simp) (fun j hj => ?_)
          rcases (show j = 8 ∨ j = 10 by simpa using hj) with rfl | rfl
          · refine held_pick (i := 8) rfl rfl ?_
            go_simp
            have HA := Lib.hid (sps_one (HSx.out.below hS))
            have hSa := hS.alloc hS.size (.cells #[.slice xa n xc] 32)
            refine ⟨hSa, ?_⟩
            refine wpAnyH_all (rs := [9, 10]) (by kernel_rfl) (by simp) (fun j hj => ?_)
            rcases (show j = 9 ∨ j = 10 by simpa using hj) with rfl | rfl
            · refine held_pick (i := 9) rfl rfl (wp_call_any 53 Try.func53 (by kernel_rfl) rfl _ _ rfl #[.int .i64 n, .slice (some ⟨w5.drew.heap.size, 0, none⟩) 1 1] rfl ((SetOf_any n _ [p] _ h1 h7 HA.out HV1.out (by simp)).mono ?_))
              rintro e w6 ⟨gt, rfl, hlo, hmk, hb6⟩
              have hS6 := hSa.trans (hb6.mono hSa.size)
              refine ⟨_, rfl, hS6, ?_⟩
              unfold setV
              rw [← HF.out] at hmk ⊢
              simp [Act.put]
              refine held_only (i := 10) rfl rfl (by kernel_rfl) (wp_alloc_set rfl ⟨hS6.alloc hS6.size _, ?_⟩)
              have hG := Blk.new w6 63 #[.int .i64 0, .slice none 0 0]
              have hM := Blk.alloc hmk (.cells #[.int .i64 0, .slice none 0 0] 63)
              simp [Act.put]
              refine held_only (i := 11) rfl rfl (by kernel_rfl) (wp_store_row 63 _ _ rfl w6.heap.size #[.int .i64 n, .slice (some ⟨gt, 0, none⟩) F F] rfl rfl 63 #[.int .i64 0, .slice none 0 0] hG infoSet rfl (by simp [Value.oneCell']) ⟨below_row (hS6.alloc hS6.size _) w6.heap.size #[.int .i64 n, .slice (some ⟨gt, 0, none⟩) F F] hS6.size, held_done (by kernel_rfl) ?_⟩)
              unfold CutB
              exact ⟨_, w6.heap.size, gt, by simp [Act.put]; rfl, below_row (hS6.alloc hS6.size _) w6.heap.size #[.int .i64 n, .slice (some ⟨gt, 0, none⟩) F F] hS6.size, Blk.setRow hG #[.int .i64 n, .slice (some ⟨gt, 0, none⟩) F F], (setRow_other _ w6.heap.size gt #[.int .i64 n, .slice (some ⟨gt, 0, none⟩) F F] (Blk.ne hM hG (by decide))).trans hM, Nat.le_trans hSa.size hlo, hS6.size⟩
            · refine held_pick (i := 10) rfl rfl (wp_alloc_set rfl ⟨hSa.alloc hSa.size _, ?_⟩)
              obtain ⟨wa, hwa⟩ : ∃ wa, wa = (w5.alloc (.cells #[.slice xa n xc] 32)).drew := ⟨_, rfl⟩
              have hSa : Below w5.heap.size w5 wa := by rw [hwa]; exact hSa
              have HA := Lib.hid (show Sps wa (.slice (some ⟨w5.drew.heap.size, 0, none⟩) 1 1) [p] by rw [hwa]; exact HA.out)
              rw [← hwa]
              have hG := Blk.new wa 63 #[.int .i64 0, .slice none 0 0]
              have hSb := hSa.alloc hSa.size (.cells #[.int .i64 0, .slice none 0 0] 63)
              clear hwa
              simp [Act.put]
              refine held_only (i := 9) rfl rfl (by kernel_rfl) (wp_call_any 53 Try.func53 (by kernel_rfl) rfl _ _ rfl #[.int .i64 n, .slice (some ⟨w5.drew.heap.size, 0, none⟩) 1 1] rfl ((SetOf_any n _ [p] _ h1 h7 (HA.out.below ((Below.refl wa.heap.size wa).alloc (Nat.le_refl _) _)) HV1.out (by simp)).mono ?_))
              rintro e w6 ⟨gt, rfl, hlo, hmk, hb6⟩
              have hS6 := hSb.trans (hb6.mono hSb.size)
              refine ⟨_, rfl, hS6, ?_⟩
              unfold setV
              rw [← HF.out] at hmk ⊢
              simp [Act.put]
              refine held_only (i := 11) rfl rfl (by kernel_rfl) (wp_store_row 63 _ _ rfl wa.heap.size #[.int .i64 n, .slice (some ⟨gt, 0, none⟩) F F] rfl rfl 63 #[.int .i64 0, .slice none 0 0] (hG.below hb6) infoSet rfl (by simp [Value.oneCell']) ⟨below_row hS6 wa.heap.size #[.int .i64 n, .slice (some ⟨gt, 0, none⟩) F F] hSa.size, held_done (by kernel_rfl) ?_⟩)
              unfold CutB
              exact ⟨_, wa.heap.size, gt, by simp [Act.put]; rfl, below_row hS6 wa.heap.size #[.int .i64 n, .slice (some ⟨gt, 0, none⟩) F F] hSa.size, Blk.setRow (hG.below hb6) #[.int .i64 n, .slice (some ⟨gt, 0, none⟩) F F], (setRow_other _ wa.heap.size gt #[.int .i64 n, .slice (some ⟨gt, 0, none⟩) F F] (Blk.ne hmk (hG.below hb6) (by decide))).trans hmk, Nat.le_trans hSb.size hlo, hSa.size⟩
          · refine held_pick (i := 10) rfl rfl (wp_alloc_set rfl ⟨hS.alloc hS.size _, ?_⟩)
            have hG := Blk.new w5.drew 63 #[.int .i64 0, .slice none 0 0]
            have hSa := hS.alloc hS.size (.cells #[.int .i64 0, .slice none 0 0] 63)
            have HSy := Lib.hid (HSx.out.below hSa)
            have hs0 : w5.drew.heap.size = w5.heap.size := rfl
            generalize w5.drew.alloc (.cells #[.int .i64 0, .slice none 0 0] 63) = wa at *
            simp [Act.put]
            refine held_only (i := 8) rfl rfl (by kernel_rfl) ?_
            go_simp
            have HA := Lib.hid (sps_one HSy.out)
            have hSb := hSa.alloc hSa.size (.cells #[.slice xa n xc] 32)
            have hG2 := hG.alloc (.cells #[.slice xa n xc] 32)
            refine ⟨hSb, ?_⟩
            refine held_only (i := 9) rfl rfl (by kernel_rfl) (wp_call_any 53 Try.func53 (by kernel_rfl) rfl _ _ rfl #[.int .i64 n, .slice (some ⟨wa.heap.size, 0, none⟩) 1 1] rfl ((SetOf_any n _ [p] _ h1 h7 HA.out HV1.out (by simp)).mono ?_))
            rintro e w6 ⟨gt, rfl, hlo, hmk, hb6⟩
            have hS6 := hSb.trans (hb6.mono hSb.size)
            refine ⟨_, rfl, hS6, ?_⟩
            unfold setV
            rw [← HF.out] at hmk ⊢
            simp [Act.put]
            refine held_only (i := 11) rfl rfl (by kernel_rfl) (wp_store_row 63 _ _ rfl w5.heap.size #[.int .i64 n, .slice (some ⟨gt, 0, none⟩) F F] rfl rfl 63 #[.int .i64 0, .slice none 0 0] (hG2.below hb6) infoSet rfl (by simp [Value.oneCell']) ⟨below_row hS6 w5.heap.size #[.int .i64 n, .slice (some ⟨gt, 0, none⟩) F F] (Nat.le_refl _), held_done (by kernel_rfl) ?_⟩)
            unfold CutB
            exact ⟨_, w5.heap.size, gt, by simp [Act.put]; rfl, below_row hS6 w5.heap.size #[.int .i64 n, .slice (some ⟨gt, 0, none⟩) F F] (Nat.le_refl _), Blk.setRow (hG2.below hb6) #[.int .i64 n, .slice (some ⟨gt, 0, none⟩) F F], (setRow_other _ w5.heap.size gt #[.int .i64 n, .slice (some ⟨gt, 0, none⟩) F F] (Blk.ne hmk (hG2.below hb6) (by decide))).trans hmk, Nat.le_trans hSb.size hlo, Nat.le_refl _⟩
        · intro a' w6 hT
          unfold CutB at hT
          obtain ⟨s, ct, gt, rfl, hb6, hC, hM, hlg, hlc⟩ := hT
          have c6 := CX.out w6 hb6
          have bb := hb6.alloc hb6.size (.cells #[.slice xa n xc] 32)
          have st := C5.out.below bb
          have su := hC.alloc (.cells #[.slice xa n xc] 32)
          have mr := M5.out.below bb
          have mu := hM.alloc (.cells #[.slice xa n xc] 32)
          rw [HF.out] at st su mr mu
          have W7 := Lib.hid (show BSt c g ct gt n (D ++ rks []) w w5 (w6.alloc (.cells #[.slice xa n xc] 32)) (.slice (some ⟨w6.heap.size, 0, none⟩) 1 1) ([] ++ [p]) [p] [.slice xa n xc] from
            ⟨st, by simpa [rks] using mr, su, mu, .inr ⟨w6.heap.size, 0, 1, _, rfl, hb6.size, Blk.new w6 _ _, Nat.le_refl _, by unfold maxLen; omega, by simp, by simp⟩, rfl, fun j hj => by
              have e : j = 0 := by simpa using hj
              subst e
              exact .inl SX0.out, (Kept.refl g w5).below (Nat.le_refl _) bb, bb.size, B5.out.trans (bb.mono B5.out.size), HLo.out, hlg, B5.out.size, M5.out.lt⟩)
          clear hb6 hC hM hlg hlc bb st su mr mu C0 CX HSx hS
          simp [Act.put]
          go_wp2_with fail
          generalize w6.alloc (.cells #[.slice xa n xc] 32) = w7 at *
          go_loopg [9] 823543 (fun K tv wr => ∃ Dn T xs, Hid (BSt c g ct gt n (D ++ rks Dn) w w5 wr tv (Dn ++ T) T xs) ∧ Hid (CBS ps fs p Dn T 0) ∧ Hid (K = 823543 - Dn.length))
          case atStart => exact ⟨[], [p], _, W7, Lib.hid (CBS.start fs HGG.out HPM.out), Lib.hid (by simp)⟩
          case round =>
            clear W7 c6
            obtain ⟨Dn, T, xs, HB, HS, HKk⟩ := hrel
            rcases T with _ | ⟨q, T⟩
            · obtain ⟨qa, qc, rfl⟩ := HB.out.qu.slice
              have hx0 : xs.length = 0 := by have := HB.out.ln; simpa using this
              have hsu := HB.out.su
              have hmu := HB.out.mru
              rw [List.append_nil] at hmu
              rw [← HF.out] at hsu
              have k1 : wr.cell? ⟨ct, 0, none⟩ = some (.int .i64 n) := by rw [hsu.cell 0]; rfl
              have k2 : wr.cell? ⟨ct, 1, none⟩ = some (.slice (some ⟨gt, 0, none⟩) F F) := by rw [hsu.cell 1]; rfl
              have hend : ∀ q, validL q = true → q.length = (ps.getD 0 []).length → ((rankL q : Int) ∈ rks Dn ↔ pk7 q ∈ clsOf (pks ps) (pk7 p)) := HS.out.end HGG.out HF1.out HFe.out HPM.out
              have HEnd := Lib.hid hend
              have HCall := Lib.hid (show Calls Try.prog 55 #[.agg #[.int .i64 n, .slice (some ⟨gt, 0, none⟩) F F]] wr fun e w' => ∃ x, e = .returned x ∧ Owp wr.heap.size w' x ((clsOf (pks ps) (pk7 p)).map (List.take n)) ∧ Below wr.heap.size wr w' from by
                have h := List_any n gt _ wr h1 h7 hmu
                unfold setV at h
                rw [HN.out, cby_list HGG.out HEnd.out, ← HN.out] at h
                rwa [← HF.out] at h)
              have HQ := Lib.hid (show clsR ps (i + 1) = clsR ps i ++ [(clsOf (pks ps) (pk7 p)).map (List.take n)] from by unfold clsR; rw [HCl.out, List.map_append, ← HP.out, ← HN.out]; rfl)
              have HD2 := Lib.hid (show MD n (D ++ rks Dn) fun a => a ∈ (clsTo (pks ps) (i + 1)).flatten from fun q hv hl => by
                rw [HCl.out, ← HP.out, List.mem_append, HD.out q hv hl, HEnd.out q hv (by rw [← HN.out]; exact hl)]
                simp)
              have hql : (clsR ps i).length ≤ 5040 := by unfold clsR; rw [List.length_map]; have := clsTo_len (pks ps) i; omega
              have R7 := Lib.hid (HB.out.kp.qrow R5.out M5.out)
              have B7 := Lib.hid HB.out.be
              have C7 := Lib.hid (show Blk wr c 63 #[.int .i64 n, .slice (some ⟨g, 0, none⟩) F F] by have := HB.out.st; rwa [← HF.out] at this)
              have M7 := Lib.hid (show Blk wr g 4 (mkm F (D ++ rks Dn)) by have := HB.out.mrk; rwa [← HF.out] at this)
              have hzb := B7.out.size
              rw [hx0]
              clear hx0 hsu hmu hend HB HS
              go_wp2_with (first | (refine HCall.out.mono ?_; rintro e w8 ⟨x, rfl, hx, hb8⟩; have HX := Lib.hid (hx.mono hzb); obtain ⟨qa, qc, hqe, _⟩ := hx.sps; subst hqe; obtain ⟨ys, y1, y2, y3⟩ := R7.out.below hb8; have Y1 := Lib.hid y1; have Y2 := Lib.hid y2; have Y3 := Lib.hid y3; have B8 := Lib.hid (B7.out.trans (hb8.mono hzb)); have C8 := Lib.hid (C7.out.below hb8); have M8 := Lib.hid (M7.out.below hb8); have hsw := B8.out.size; have hyl : ys.length ≤ 5040 := (by rw [y1]; exact hql); obtain ⟨lq, hlq⟩ : ∃ lq, lq = ((clsOf (pks ps) (pk7 p)).map (List.take n)).length := ⟨_, rfl⟩; rw [← hlq] at HX ⊢; clear hx hb8 y1 y2 y3 hlq) | (at_builtin; go_loud (refine wpList_append_own _ rfl _ _ 33 rfl w.heap.size 22 i0 (.slice none 0 0) 1 24 Try.underlying33 hi0 hz0 hz1 hz2 rfl (by decide) u5 ys.length ys rfl (Y2.out.alloc _) ⟨w8.heap.size, 0, none⟩ 1 1 [.slice qa lq qc] rfl rfl (cell_one_new _ _ _) (by simp [Value.oneCell']) (by unfold maxLen; omega) (by omega) (by simp; omega) ?_; intro v' wc hown' hgrow _)))
              have ht := row_typ (Y2.out.alloc (.cells #[.slice qa lq qc] 22))
              have bb := (Below.refl w8.heap.size w8).alloc (Nat.le_refl _) (.cells #[.slice qa lq qc] 22)
              have R13 := Lib.hid (show QRow w.heap.size wc v' (clsR ps (i + 1)) by rw [HQ.out]; exact QRow.push Y1.out Y2.out Y3.out HX.out hown' hgrow)
              have C13 := Lib.hid ((C8.out.below bb).grown hgrow ht (by decide))
              have M13 := Lib.hid ((M8.out.below bb).grown hgrow ht (by decide))
              have B13 := Lib.hid ((B8.out.alloc hsw (.cells #[.slice qa lq qc] 22)).grown hgrow (by simp; omega) (fun r e => (Y2.out.lt r e).1))
              clear hown' hgrow ht bb
              go_wp2
              go_roundw
              case rel => exact ⟨i + 1, _, by go_num, by omega, R13, C13, M13, HD2, B13⟩
              case measure => simp [intOf]; omega
            · obtain ⟨qb, k, cq, rfl, hcq⟩ := HB.out.qu.form (by rw [HB.out.ln]; simp)
              rcases xs with _ | ⟨x, xs⟩
              · have := HB.out.ln; simp at this
              have hk0 := HB.out.qu.cell (i := 0) (by simp)
              simp only [Nat.add_zero, List.getD_cons_zero] at hk0
              have hx0 := HB.out.rw 0 (by simp)
              simp only [List.getD_cons_zero] at hx0
              simp only [List.length_cons] at hcq HB ⊢
              obtain ⟨N, hN⟩ : ∃ N, N = xs.length := ⟨_, rfl⟩
              rw [← hN] at hcq HB ⊢
              have hlen := HS.out.len
              have hD : Dn.length < 823543 := by rw [List.length_append] at hlen; simp at hlen; omega
              have hNb : N ≤ 823543 := by
                have h4 := HB.out.ln
                rw [List.length_append] at hlen
                simp at hlen h4; omega
              have hpop := HB.out.pop
              obtain ⟨A, hA⟩ : ∃ A, (if cq = 1 then some (⟨qb, k, none⟩ : Addr) else some ⟨qb, k + 1, none⟩) = A := ⟨_, rfl⟩
              rw [hA] at hpop
              have hqm : q ∈ ps := HS.out.val q (by simp)
              obtain ⟨qv, ql⟩ := HGG.out.1.mem hqm
              rw [← HN.out] at ql
              have hRq := (unrL_rank qv).2
              rw [ql, ← HF.out] at hRq
              obtain ⟨Rq, hRq0⟩ : ∃ Rq, Rq = rankL q := ⟨_, rfl⟩
              rw [← hRq0] at hRq
              have HRq := Lib.hid hRq0
              have QM := Lib.hid hqm
              have QV := Lib.hid qv
              have QL := Lib.hid ql
              have HPp := Lib.hid hpop
              have HXx := Lib.hid hx0
              have HDl := Lib.hid hD
              obtain ⟨pa, pc, hpe, _⟩ := hx0.sl HB.out.be
              subst hpe
              rw [ql] at HXx hk0
              clear hpop hx0 hN HB hD hlen hqm qv ql hRq0
              go_wp2_with fail
              clear hk0 hcq hA
              obtain ⟨wq, rfl⟩ : ∃ wq, wq = wr := ⟨wr, rfl⟩
              generalize (Value.slice A N (cq - 1)) = tv0 at *
              have CZ := Lib.hid (show ∀ w', Below wq.heap.size wq w' → w'.cell? ⟨c, 1, none⟩ = some (.slice (some ⟨g, 0, none⟩) F F) from fun w' h => by
                have := HPp.out.st
                rw [← HF.out] at this
                rw [(this.below h).cell 1]; rfl)
              have HSq := Lib.hid (HXx.out.sl HPp.out.be)
              have hS : Below wq.heap.size wq wq.drew := below_drewN' (Below.refl _ _) 1
              refine wp_region_held_all (S := fun w' => w'.cell? ⟨c, 1, none⟩ = some (.slice (some ⟨g, 0, none⟩) F F)) (by kernel_rfl) ?_
              refine held_take (i := 0) (v := .pointer (some ⟨c, 1, none⟩)) rfl rfl (by kernel_rfl) (by kernel_rfl) (by kernel_rfl) (fun w' h => by go_simp) (CZ.out _ hS) ?_
              refine held_take (i := 1) (v := .slice (some ⟨g, 0, none⟩) F F) rfl rfl (by kernel_rfl) (by kernel_rfl) (by kernel_rfl) (fun w' h => by go_simp) (CZ.out _ hS) ?_
              refine held_take (i := 2) (v := .slice pa n pc) rfl rfl (by kernel_rfl) (by kernel_rfl) (by kernel_rfl) (fun w' h => by go_simp) (CZ.out _ hS) ?_
              simp [Act.put]
              refine held_only (i := 3) rfl rfl (by kernel_rfl) (wp_call_any 54 Try.func54 (by kernel_rfl) rfl _ _ rfl #[.slice pa n pc] rfl ((refrank_any _ q _ (HSq.out.below hS) (by have := QL.out; omega)).mono ?_))
              rintro e w8 ⟨rfl, j, rfl⟩
              have hS8 : Below wq.heap.size wq (wq.drew.drewN j) := below_drewN' hS j
              rw [← HRq.out]
              generalize wq.drew.drewN j = w8 at *
              refine ⟨_, rfl, CZ.out _ hS8, ?_⟩
              simp [Act.put]
              refine held_take (i := 4) (v := .pointer (some ⟨g, Rq, none⟩)) rfl rfl (by kernel_rfl) (by kernel_rfl) (by kernel_rfl) (fun w' h => by go_simp) (CZ.out _ hS8) ?_
              simp [Act.put]
              have HP8 := Lib.hid (HPp.out.below hS8)
              have HX8 := Lib.hid (HXx.out.below hS8)
              have hm8 := HP8.out.mrk
              rw [← HF.out] at hm8
              have k6 : w8.cell? ⟨g, Rq, none⟩ = some (.bool (decide ((Rq : Int) ∈ D ++ rks Dn))) := by rw [hm8.cell Rq, mkm_get _ _ _ hRq]
              have k7 := hm8.free Rq
              refine held_only (i := 5) rfl rfl (by kernel_rfl) ?_
              go_simp
              have hmk := HP8.out.mark Rq
              have HXm := Lib.hid (show ElP w.heap.size w (w8.setCell ⟨g, Rq, none⟩ (.bool true)) (.slice pa n pc) q from HX8.out.imp id fun h => row_set h HP8.out.mrk (by decide))
              rw [show D ++ rks Dn ++ [(Rq : Int)] = D ++ rks (Dn ++ [q]) by rw [rks_snoc, List.append_assoc, HRq.out], show Dn ++ q :: T = Dn ++ [q] ++ T by simp] at hmk
              have HPm := Lib.hid hmk
              clear hm8 k6 k7 hmk HP8 HX8 hS8 hS HPp HXx HSq CZ
              generalize w8.setCell ⟨g, Rq, none⟩ (.bool true) = w9 at *
              have hst := HPm.out.st
              rw [← HF.out] at hst
              refine ⟨by rw [hst.cell 1]; rfl, held_done (by kernel_rfl) ?_⟩
              clear hst
              go_wp2_with fail
              go_loopw [9, 11] (fun tv iv wr => ∃ (k : Nat) (T : List (List Int)) (xs : List Value), iv = .int .i64 k ∧ k ≤ l ∧ Hid (BSt c g ct gt n (D ++ rks (Dn ++ [q])) w w5 wr tv (Dn ++ [q] ++ T) T xs) ∧ Hid (ElP w.heap.size w wr (.slice pa n pc) q) ∧ Hid (CBS ps fs p Dn (q :: T) k)) (fun _ iv _ => l - (intOf iv).toNat)
              case atStart => exact ⟨0, T, xs, rfl, Nat.zero_le _, HPm, HXm, HS⟩
              case round =>
                clear HPm HXm HS
                obtain ⟨k, T, xs, rfl, hk, HP1, HX1, HS⟩ := hrel
                by_cases hlt : k < l
                · obtain ⟨y, y0, sy⟩ := HK.out k (by rw [← HL.out]; exact hlt)
                  have y1 : wr.cell? ⟨fb, fo + k, none⟩ = some y := (HP1.out.be.cell (p := ⟨fb, fo + k, none⟩) hfw).trans y0
                  have sy1 := sy.below HP1.out.be
                  obtain ⟨r, hr⟩ : ∃ r, r = fs.getD k [] := ⟨_, rfl⟩
                  rw [← hr] at sy1
                  have hrm : r ∈ ps := by rw [hr]; exact HF1.out _ (getD_mem (by rw [← HL.out]; exact hlt))
                  obtain ⟨rv, rl'⟩ := HGG.out.1.mem hrm
                  rw [← HN.out] at rl'
                  have HR := Lib.hid hr
                  have HCall := Lib.hid (show Calls Try.prog 72 #[y, .slice pa n pc] wr fun e w' => ∃ x, e = .returned x ∧ Ow wr.heap.size w' x (conjP r q) ∧ Below wr.heap.size wr w' from
                    refcj_any _ _ r q wr sy1 (HX1.out.sl HP1.out.be) rv QV.out (rl'.trans QL.out.symm))
                  obtain ⟨cv, cl⟩ := conjP_valid rv QV.out (rl'.trans QL.out.symm)
                  rw [rl'] at cl
                  obtain ⟨ya, yc, rfl, _⟩ := sy1
                  rw [rl'] at y1 HCall
                  have CV := Lib.hid cv
                  have CL := Lib.hid cl
                  clear y0 sy hr hrm rv rl' cv cl
                  go_wp2_with fail
                  refine HCall.out.mono ?_
                  rintro e w10 ⟨v1, rfl, hv, hb10⟩
                  have HPs := Lib.hid (HP1.out.below hb10)
                  have HXs := Lib.hid (HX1.out.below hb10)
                  have HVs := Lib.hid (hv.mono HP1.out.be.size)
                  clear HP1 HX1 hb10 hv y1
                  have HRk := Lib.hid (refrank_any v1 (conjP r q) w10 HVs.out.sl (by have := CL.out; omega))
                  obtain ⟨va, vc, e, _⟩ := HVs.out.sl
                  rw [CL.out] at e
                  subst e
                  go_wp2_with fail
                  refine HRk.out.mono ?_
                  rintro e w11 ⟨rfl, j, rfl⟩
                  have hb11 : Below w10.heap.size w10 (w10.drewN j) := below_drewN' (Below.refl _ _) j
                  have HPs := Lib.hid (HPs.out.below hb11)
                  have HXs := Lib.hid (HXs.out.below hb11)
                  have HVs := Lib.hid (HVs.out.below hb11)
                  clear hb11 HRk HCall
                  generalize w10.drewN j = w11 at *
                  obtain ⟨z, hz⟩ : ∃ z, z = conjP r q := ⟨_, rfl⟩
                  have ha := CV.out
                  have hal := CL.out
                  clear CV CL
                  rw [← hz] at ha hal HVs ⊢
                  have hR := (unrL_rank ha).2
                  rw [hal, ← HF.out] at hR
                  obtain ⟨R, hR0⟩ : ∃ R, R = rankL z := ⟨_, rfl⟩
                  rw [← hR0] at hR ⊢
                  have hin := rks_mem (S := Dn ++ [q] ++ T) (n := n) (fun x hx => by
                    have := HGG.out.1.mem (HS.out.val x (by simpa using hx))
                    rw [← HN.out] at this
                    exact this) ha hal
                  rw [← hR0] at hin
                  have hsu := HPs.out.su
                  have hmu := HPs.out.mru
                  rw [← HF.out] at hsu hmu
                  have k1 : w11.cell? ⟨ct, 1, none⟩ = some (.slice (some ⟨gt, 0, none⟩) F F) := by rw [hsu.cell 1]; rfl
                  have k2 : w11.cell? ⟨gt, R, none⟩ = some (.bool (decide ((R : Int) ∈ rks (Dn ++ [q] ++ T)))) := by rw [hmu.cell R, mkm_get _ _ _ hR]
                  have k3 := hmu.free R
                  have HZ := Lib.hid hz
                  have HR0 := Lib.hid hR0
                  have hkf : k < fs.length := by rw [← HL.out]; exact hlt
                  by_cases hm : z ∈ Dn ++ [q] ++ T
                  · rw [decide_eq_true (hin.2 hm)] at k2
                    have HS2 := Lib.hid (HS.out.has HGG.out HF1.out hkf (by rw [← HR.out, ← HZ.out]; simpa using hm))
                    clear hm hin hsu hmu hz hR0 ha hal HS hkf
                    go_wp2_with fail
                    go_roundw
                    case rel => exact ⟨k + 1, T, xs, by go_num, by omega, HPs, HXs, HS2⟩
                    case measure => simp [intOf]; omega
                  · rw [decide_eq_false (fun h => hm (hin.1 h))] at k2
                    have HS2 := Lib.hid (HS.out.add HGG.out HF1.out HPM.out hkf (by rw [← HR.out, ← HZ.out]; simpa using hm))
                    rw [← HR.out, ← HZ.out] at HS2
                    have hxl : xs.length + 1 ≤ 1000000 := by
                      have h3 := HS2.out.len
                      have h4 := HPs.out.ln
                      simp at h3; omega
                    have hsz : (w11.setCell ⟨gt, R, none⟩ (.bool true)).heap.size = w11.heap.size := by simp
                    have hQ := que_set (i := R) (u := .bool true) HPs.out.qu HPs.out.mru (by decide)
                    have hQ := hQ.below ((Below.refl _ _).alloc (Nat.le_refl _) (.cells #[.slice va n vc] 32))
                    have hc5 : ((w11.setCell ⟨gt, R, none⟩ (.bool true)).alloc (.cells #[.slice va n vc] 32)).cell? ((⟨w11.heap.size, 0, none⟩ : Addr).add 0) = some (.slice va n vc) := by rw [← hsz]; exact cell_one_new _ _ _ 0 _ rfl
                    have hb5 := HPs.out.sz
                    have HQ := Lib.hid hQ
                    have HC5 := Lib.hid hc5
                    have HSz := Lib.hid hsz
                    clear hm hin hsu hmu hz hR0 ha hal HS hkf hQ hc5 hsz
                    go_wp2_with (at_builtin; go_loud (refine wpList_append_que rfl _ _ 22 rfl w5.heap.size 32 i1 (.slice none 0 0) Try.underlying22 hq hq0 hq1 (by rw [hq2]; omega) rfl u9 xs rfl HQ.out ⟨w11.heap.size, 0, none⟩ 1 (.slice va n vc) rfl HC5.out rfl hxl (by rw [World.size_alloc, HSz.out]; omega) ?_; intro v' w12 hq6 hgrow _))
                    have HPf : Hid (BSt c g ct gt n (D ++ rks (Dn ++ [q])) w w5 w12 v' (Dn ++ [q] ++ (T ++ [z])) (T ++ [z]) (xs ++ [.slice va n vc])) := Lib.hid (by
                      rw [HR0.out] at hgrow
                      rw [← List.append_assoc]
                      exact HPs.out.push HVs.out _ hq6 hgrow)
                    have HXf := Lib.hid (HPs.out.keep HXs.out R _ hgrow)
                    clear hq6 hgrow HPs HXs HVs HQ HC5 HSz
                    go_wp2
                    go_roundw
                    case rel => exact ⟨k + 1, T ++ [z], _, by go_num, by omega, HPf, HXf, HS2⟩
                    case measure => simp [intOf]; omega
                · have hke : k = fs.length := by rw [← HL.out]; omega
                  have HSf := Lib.hid (show CBS ps fs p (Dn ++ [q]) T 0 from CBS.next (by rw [← hke]; exact HS.out))
                  clear hke
                  go_wp2_with fail
                  go_roundg (823543 - (Dn ++ [q]).length)
                  case measure => rw [HKk.out, List.length_append]; have := HDl.out; simp; omega
                  case rel => exact ⟨Dn ++ [q], T, xs, HP1, HSf, Lib.hid rfl⟩
    · have hke : i = ps.length := by rw [← HM.out]; omega
      have R6 := Lib.hid (show QRow w.heap.size wr u5 (clsR ps m) by rw [HM.out, ← hke]; exact HR.out)
      clear hke
      go_wp2
      go_ret
      exact ⟨u5, rfl, R6.out, B1.out⟩
end Go.Proofs.Ytnnkccfbfjjojaa
