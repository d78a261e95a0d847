/- group.Normal. -/
import Derived.Test.YtdcilefiacohnaaNorm
namespace Go.Proofs.Ytdcilefiacohnaa
open Go Go.RowKit

section
variable {P : Program} {ops : Array Oper} {S : World → Prop} {T : Act → World → Prop}
theorem held_take_w {i : Nat} {oi : Oper} {v : Value} {fuel : Nat} {listed : Array Bool} {a : Act} {w : World} (hi : ops[i]? = some oi) (hg : Region.wanted oi (yielded ops a.tmps) = true)
    (hs : Region.noSelect ops = true) (hf : Region.free .any ops listed i = true) (hr : (Region.ready .any ops listed).contains i = true)
    (hy : ∀ w, S w → (execOp a.eval oi).run P w = .ok (.value v) w) (hS : S w)
    (h : wpAnyH P .any ops (Only T) S fuel (listed.setIfInBounds i true) (a.put oi.dst v) w) : wpAnyH P .any ops (Only T) S (fuel + 1) listed a w :=
  wpAnyH_take hi hs hf hr (fun _ _ _ h => by cases h.1) (.inl ⟨hg, hy⟩) hS h
theorem held_skip {i : Nat} {oi : Oper} {fuel : Nat} {listed : Array Bool} {a : Act} {w : World} (hi : ops[i]? = some oi) (hg : Region.wanted oi (yielded ops a.tmps) = false)
    (hs : Region.noSelect ops = true) (hf : Region.free .any ops listed i = true) (hr : (Region.ready .any ops listed).contains i = true) (hS : S w)
    (h : wpAnyH P .any ops (Only T) S fuel (listed.setIfInBounds i true) (a.put oi.dst undef) w) : wpAnyH P .any ops (Only T) S (fuel + 1) listed a w :=
  wpAnyH_take hi hs hf hr (fun _ _ _ h => by cases h.1) (.inr ⟨hg, rfl⟩) hS h
theorem held_only_w {i : Nat} {oi : Oper} {fuel : Nat} {listed : Array Bool} {a : Act} {w : World} (hi : ops[i]? = some oi) (hg : Region.wanted oi (yielded ops a.tmps) = true) (hr : Region.ready .any ops listed = [i])
    (h : oi.wp P a w (fun a' w' => S w' ∧ wpAnyH P .any ops (Only T) S fuel (listed.setIfInBounds i true) a' w') (Only T)) : wpAnyH P .any ops (Only T) S (fuel + 1) listed a w := by
  refine wpAnyH_all hr (by simp) (fun j hj => ?_)
  have e : j = i := by simpa using hj
  subst e
  unfold wpOp
  simp only [hi, hg, if_true]
  exact .inl h
end

/-- sub is closed under conjugation with elements of the group -/
def NormP (ps qs : List (List Int)) : Prop := ∀ a ∈ pks qs, ∀ b ∈ pks ps, conjL a b ∈ pks qs
theorem sub_iff {ps qs G L G2 L2 : List (List Int)} (hp : IsGrp ps) (hq : IsGrp qs) (g : Grp G L) (g2 : Grp G2 L2) (h : ∀ a, a ∈ L ↔ Gen (pks ps) a) (h2 : ∀ a, a ∈ L2 ↔ Gen (pks qs) a) : (∀ x ∈ G2, x ∈ L) ↔ ∀ a ∈ pks qs, a ∈ pks ps := by
  constructor
  · intro hs a ha
    have h3 := (h2 a).2 (Gen.of_mem hq.1.els ha)
    have h4 := (g2.mem a).1 h3
    have h5 : Gen G a := Gen.sub g.gels (fun x hx => (g.mem x).1 (hs x hx)) h4
    exact hp.2.2 a ((h a).1 ((g.mem a).2 h5))
  · intro hs x hx
    have h3 := hq.2.2 x ((h2 x).1 (g2.sub x hx))
    exact (h x).2 (Gen.of_mem hp.1.els (hs x h3))
theorem norm_iff {ps qs G L G2 L2 : List (List Int)} (hp : IsGrp ps) (hq : IsGrp qs) (g : Grp G L) (g2 : Grp G2 L2) (h : ∀ a, a ∈ L ↔ Gen (pks ps) a) (h2 : ∀ a, a ∈ L2 ↔ Gen (pks qs) a) : (∀ x ∈ G2, ∀ y ∈ G, conjL x y ∈ L2) ↔ NormP ps qs := by
  constructor
  · intro hs a ha b hb
    have h3 := (g2.mem a).1 ((h2 a).2 (Gen.of_mem hq.1.els ha))
    have h4 := (g.mem b).1 ((h b).2 (Gen.of_mem hp.1.els hb))
    have h5 := normal_all g2.gels g.gels (fun d hd y hy => (g2.mem _).1 (hs d hd y hy)) h3 h4
    exact hq.2.2 _ ((h2 _).1 ((g2.mem _).2 h5))
  · intro hs x hx y hy
    have h3 := hq.2.2 x ((h2 x).1 (g2.sub x hx))
    have h4 := hp.2.2 y ((h y).1 (g.sub y hy))
    exact (h2 _).2 (Gen.of_mem hq.1.els (hs x h3 y h4))

set_option maxRecDepth 100000 in
set_option maxHeartbeats 4000000 in
theorem Normal_ok (u v : Value) (ps qs : List (List Int)) (w : World) (h : Sps w u ps) (k : Sps w v qs) (hp : IsGrp ps) (hq : IsGrp qs) :
    Calls Try.prog 24 #[u, v] w fun e w' => Below w.heap.size w w' ∧ ((((ps.getD 0 []).length ≠ (qs.getD 0 []).length ∨ ¬ ∀ a ∈ pks qs, a ∈ pks ps) ∧ e = .returned (.tuple #[.bool false, .int .i64 2])) ∨ ((ps.getD 0 []).length = (qs.getD 0 []).length ∧ (∀ a ∈ pks qs, a ∈ pks ps) ∧ ∃ r, e = .returned (.tuple #[.bool r, .int .i64 0]) ∧ Says r (NormP ps qs))) := by
  have HH := Lib.hid h
  have HK := Lib.hid k
  have HP := Lib.hid hp
  have HQ := Lib.hid hq
  obtain ⟨a, cap, rfl, _⟩ := h
  obtain ⟨b, cap2, rfl, _⟩ := k
  obtain ⟨l, hl⟩ : ∃ l, l = ps.length := ⟨_, rfl⟩
  obtain ⟨l2, hl2⟩ : ∃ l2, l2 = qs.length := ⟨_, rfl⟩
  rw [← hl] at HH ⊢
  rw [← hl2] at HK ⊢
  obtain ⟨n, hn⟩ : ∃ n, n = (ps.getD 0 []).length := ⟨_, rfl⟩
  obtain ⟨n2, hn2⟩ : ∃ n2, n2 = (qs.getD 0 []).length := ⟨_, rfl⟩
  have HN := Lib.hid hn
  have HN2 := Lib.hid hn2
  rw [← hn, ← hn2]
  have h7 : n ≤ 7 := by rw [hn]; exact hp.seven
  have h72 : n2 ≤ 7 := by rw [hn2]; exact hq.seven
  clear hp hq hl hl2 hn hn2
  go_enter Try.func24, Try.ntmps24
  go_wp2_with fail
  refine (closedOf_any _ ps _ HH.out HP.out.small).mono ?_
  rintro e w1 ⟨hb1, hcase⟩
  obtain ⟨_, c, m, vg, vl, G, L, rfl, ho, hm⟩ := hcase.resolve_left (fun h => h.1 HP.out)
  rw [← HN.out] at ho
  have HO := Lib.hid ho
  have HM := Lib.hid hm
  have HB1 := Lib.hid hb1
  have HK1 := Lib.hid (HK.out.below hb1)
  clear ho hm hb1 hcase
  go_wp2_with fail
  refine (closedOf_any _ qs _ HK1.out HQ.out.small).mono ?_
  rintro e w2 ⟨hb2, hcase⟩
  obtain ⟨_, c2, m2, vg2, vl2, G2, L2, rfl, ho2, hm2⟩ := hcase.resolve_left (fun h => h.1 HQ.out)
  rw [← HN2.out] at ho2
  have HO2 := Lib.hid ho2
  have HM2 := Lib.hid hm2
  have HC := Lib.hid (HO.out.clo.below hb2)
  have HB2 := Lib.hid (HB1.out.trans (hb2.mono HB1.out.size))
  have HSub := Lib.hid (sub_iff HP.out HQ.out HO.out.grp HO2.out.grp HM.out HM2.out)
  have HNorm := Lib.hid (norm_iff HP.out HQ.out HO.out.grp HO2.out.grp HM.out HM2.out)
  clear ho2 hm2 hb2 hcase
  obtain ⟨z, hz⟩ : ∃ z, z = decide (n ≠ n2) := ⟨_, rfl⟩
  have hz1 : ((n : Int) != (n2 : Int)) = z := by
    rw [hz]
    by_cases e : n = n2
    · subst e; simp
    · rw [decide_eq_true e]; exact bne_iff_ne.2 (by omega)
  have HZ := Lib.hid hz
  clear hz
  go_wp2_with fail
  refine wp_region_held_all (S := fun w' => Below w2.heap.size w2 w') (by kernel_rfl) ?_
  have hS : Below w2.heap.size w2 w2.drew := below_drewN' (Below.refl _ _) 1
  refine held_take (i := 0) (v := .pointer (some ⟨c, 0, none⟩)) rfl rfl (by kernel_rfl) (by kernel_rfl) (by kernel_rfl) (fun w' h => by go_simp) hS ?_
  refine held_take (i := 1) (v := .pointer (some ⟨c, 0, none⟩)) rfl rfl (by kernel_rfl) (by kernel_rfl) (by kernel_rfl) (fun w' h => by go_simp) hS ?_
  refine held_take (i := 2) (v := .pointer (some ⟨c, 0, none⟩)) rfl rfl (by kernel_rfl) (by kernel_rfl) (by kernel_rfl) (fun w' h => by go_simp) hS ?_
  refine held_take (i := 3) (v := .int .i64 n) rfl rfl (by kernel_rfl) (by kernel_rfl) (by kernel_rfl) (fun w' h => by have h1 := (HC.out.cells.below h).cell 0; go_simp) hS ?_
  simp [Act.put]
  refine held_take (i := 4) (v := .pointer (some ⟨c2, 0, none⟩)) rfl rfl (by kernel_rfl) (by kernel_rfl) (by kernel_rfl) (fun w' h => by go_simp) hS ?_
  refine held_take (i := 5) (v := .pointer (some ⟨c2, 0, none⟩)) rfl rfl (by kernel_rfl) (by kernel_rfl) (by kernel_rfl) (fun w' h => by go_simp) hS ?_
  refine held_take (i := 6) (v := .pointer (some ⟨c2, 0, none⟩)) rfl rfl (by kernel_rfl) (by kernel_rfl) (by kernel_rfl) (fun w' h => by go_simp) hS ?_
  refine held_take (i := 7) (v := .int .i64 n2) rfl rfl (by kernel_rfl) (by kernel_rfl) (by kernel_rfl) (fun w' h => by have h1 := (HO2.out.clo.cells.below h).cell 0; go_simp) hS ?_
  simp [Act.put]
  refine held_take (i := 8) (v := .bool z) rfl rfl (by kernel_rfl) (by kernel_rfl) (by kernel_rfl) (fun w' h => by go_simp) hS ?_
  refine held_take (i := 9) (v := .bool z) rfl rfl (by kernel_rfl) (by kernel_rfl) (by kernel_rfl) (fun w' h => by go_simp) hS ?_
  simp [Act.put]
  cases z with
  | true =>
    refine held_skip (i := 10) rfl (by kernel_rfl) (by kernel_rfl) (by kernel_rfl) (by kernel_rfl) hS ?_
    refine held_skip (i := 11) rfl (by kernel_rfl) (by kernel_rfl) (by kernel_rfl) (by kernel_rfl) hS ?_
    refine held_skip (i := 12) rfl (by kernel_rfl) (by kernel_rfl) (by kernel_rfl) (by kernel_rfl) hS ?_
    refine held_skip (i := 13) rfl (by kernel_rfl) (by kernel_rfl) (by kernel_rfl) (by kernel_rfl) hS ?_
    simp [Act.put]
    refine held_take (i := 14) (v := .bool true) rfl rfl (by kernel_rfl) (by kernel_rfl) (by kernel_rfl) (fun w' h => by go_simp) hS ?_
    refine held_done (by kernel_rfl) ?_
    have HB3 := Lib.hid (HB2.out.trans (hS.mono HB2.out.size))
    clear hS
    simp [Act.put]
    go_wp2_with fail
    go_ret2
    exact ⟨HB3.out, .inl ⟨.inl (of_decide_eq_true HZ.out.symm), rfl⟩⟩
  | false =>
    refine held_take_w (i := 10) (v := .pointer (some ⟨c, 0, none⟩)) rfl (by kernel_rfl) (by kernel_rfl) (by kernel_rfl) (by kernel_rfl) (fun w' h => by go_simp) hS ?_
    refine held_take_w (i := 11) (v := .pointer (some ⟨c2, 0, none⟩)) rfl (by kernel_rfl) (by kernel_rfl) (by kernel_rfl) (by kernel_rfl) (fun w' h => by go_simp) hS ?_
    simp [Act.put]
    refine held_only_w (i := 12) rfl (by kernel_rfl) (by kernel_rfl) (wp_call_any 60 Try.func60 (by kernel_rfl) rfl _ _ rfl #[.pointer (some ⟨c, 0, none⟩), .pointer (some ⟨c2, 0, none⟩)] rfl ((contains_any (HC.out.below hS) (HO2.out.clo.below hS) HO2.out.grp).mono ?_))
    rintro e w3 ⟨r, rfl, hr, hb3⟩
    have hS3 : Below w2.heap.size w2 w3 := hS.trans (hb3.mono hS.size)
    refine ⟨_, rfl, hS3, ?_⟩
    have HR := Lib.hid hr
    clear hr hb3
    simp [Act.put]
    refine held_take_w (i := 13) (v := .bool (!r)) rfl (by kernel_rfl) (by kernel_rfl) (by kernel_rfl) (by kernel_rfl) (fun w' h => by go_simp) hS3 ?_
    refine held_take (i := 14) (v := .bool (!r)) rfl rfl (by kernel_rfl) (by kernel_rfl) (by kernel_rfl) (fun w' h => by go_simp) hS3 ?_
    refine held_done (by kernel_rfl) ?_
    have HB3 := Lib.hid (HB2.out.trans (hS3.mono HB2.out.size))
    have HS3 := Lib.hid hS3
    clear hS hS3
    simp [Act.put]
    cases r with
    | false =>
      go_wp2_with fail
      go_ret2
      exact ⟨HB3.out, .inl ⟨.inr (fun h => by have := HR.out.2 (HSub.out.2 h); cases this), rfl⟩⟩
    | true =>
      go_wp2_with fail
      refine (normal_any (HC.out.below HS3.out) HO.out.grp (HO2.out.clo.below HS3.out) HO2.out.grp).mono ?_
      rintro e w4 ⟨r, rfl, hr, hb4⟩
      have HR4 := Lib.hid hr
      have HB4 := Lib.hid (HB3.out.trans (hb4.mono HB3.out.size))
      clear hr hb4
      go_wp2_with fail
      go_ret2
      exact ⟨HB4.out, .inr ⟨by have := of_decide_eq_false HZ.out.symm; omega, HSub.out.1 (HR.out.1 rfl), r, rfl, ⟨fun h => HNorm.out.1 (HR4.out.1 h), fun h => HR4.out.2 (HNorm.out.2 h)⟩⟩⟩
end Go.Proofs.Ytdcilefiacohnaa
