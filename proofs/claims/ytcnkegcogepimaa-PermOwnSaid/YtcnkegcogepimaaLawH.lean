/- The walks of the statements' own functions, eighth part: PermConjugates. -/
import Derived.Test.YtcnkegcogepimaaProg
import Derived.Test.YtcnkegcogepimaaBase
import Derived.Test.YtcnkegcogepimaaLawA
import Derived.Test.YtcnkegcogepimaaLawB
import Derived.Test.YtcnkegcogepimaaConj
import Derived.Test.YtcnkegcogepimaaConjO
namespace Go.Proofs.Ytcnkegcogepimaa
open Go.RowKit Go.Shelf
attribute [local go_sem] Oper.semAt_some

set_option maxRecDepth 100000 in
set_option maxHeartbeats 1000000 in
theorem conj_bad (v1 v2 : Value) (p q : List Int) (w : World) (h1 : Sl w v1 p) (h2 : Sl w v2 q) (hp : p.length ≤ 1000000) (hq : q.length ≤ 1000000) (he : errP p q ≠ 0) :
    Calls Try.prog 40 #[v1, v2] w fun e w' => e = .returned (.tuple #[.slice none 0 0, .int .i64 (errP p q)]) ∧ Below w.heap.size w w' := by
  have H1 := Lib.hid h1
  have H2 := Lib.hid h2
  obtain ⟨a, ca, rfl, _⟩ := h1
  obtain ⟨b, cb, rfl, _⟩ := h2
  obtain ⟨c, hc⟩ : ∃ c, c = errP p q := ⟨_, rfl⟩
  rw [← hc] at he ⊢
  have HC := Lib.hid hc
  have hne : (c != 0) = true := by rw [bne_iff_ne]; exact he
  refine (callsIn_wide (n := 3)).1 ?_
  refine callsIn_of_wp_marks Try.func40 rfl trivial ?_ rfl
  simp only [Try.ntmps40, List.size_toArray, List.length_cons, List.length_nil, Nat.reduceAdd, Nat.reduceSub, Array.replicate_succ, Array.replicate_zero, List.push_toArray, List.append_toArray, List.nil_append, List.cons_append]
  have HB0 := Lib.hid ((((Below.refl _ w).alloc (Nat.le_refl _) (Obj.cells #[Value.slice b q.length cb] 23)).alloc (by simp) (Obj.cells #[Value.slice none 0 0] 23)).alloc (by simp; omega) (Obj.cells #[Value.int .i64 0] 27))
  have m2 := Blk.new (w.alloc (Obj.cells #[Value.slice b q.length cb] 23)) 23 #[Value.slice none 0 0]
  have m3 := Blk.new ((w.alloc (Obj.cells #[Value.slice b q.length cb] 23)).alloc (Obj.cells #[Value.slice none 0 0] 23)) 27 #[Value.int .i64 0]
  have m2 := m2.alloc (Obj.cells #[Value.int .i64 0] 27)
  rw [World.size_alloc] at m2
  rw [World.size_alloc, World.size_alloc] at m3
  have M2 := Lib.hid m2
  have M3 := Lib.hid m3
  clear he hc m2 m3
  gi_wp2_with (refine ⟨trivial, ?_⟩; gi_at_call 56; refine (callsIn_wide.2 (pair_any _ _ p q _ (H1.out.below HB0.out) (H2.out.below HB0.out) hp hq)).mono ?_; rintro e w2 ⟨rfl, b2⟩; rw [← HC.out]; have f5 := (M2.out.below b2).free 0; have f6 := (M3.out.below b2).free 0; have k5 : w2.cell? ⟨w.heap.size + 1, 0, none⟩ = some (.slice none 0 0) := by simpa using (M2.out.below b2).cell 0
               have k6 : w2.cell? ⟨w.heap.size + 1 + 1, 0, none⟩ = some (.int .i64 0) := by simpa using (M3.out.below b2).cell 0)
  refine ⟨_, res_cell2 rfl _ _ (w.heap.size + 1) (w.heap.size + 1 + 1) (.slice none 0 0) (.int .i64 c) rfl rfl ?_ ?_, rfl, ?_⟩
  · simpa using (((M2.out.below b2).set 0 (.slice none 0 0)).other (w.heap.size + 1 + 1) 0 (.int .i64 c) (by omega)).cell 0
  · simpa using (((M3.out.below b2).other (w.heap.size + 1) 0 (.slice none 0 0) (by omega)).set 0 (.int .i64 c)).cell 0
  · exact ((HB0.out.trans (b2.mono HB0.out.size)).setCell (by show w.heap.size ≤ w.heap.size + 1; omega) _).setCell (by show w.heap.size ≤ w.heap.size + 1 + 1; omega) _

set_option maxHeartbeats 4000000 in
theorem conjugates_law (v1 v2 : Value) (p q : List Int) (w : World) (h1 : Sl w v1 p) (h2 : Sl w v2 q) :
    Calls Try.prog 7 #[v1, v2] w fun e w' => e = .returned (.bool true) ∧ Below w.heap.size w w' := by
  have H1 := Lib.hid h1
  have H2 := Lib.hid h2
  obtain ⟨a, ca, rfl, _⟩ := h1
  obtain ⟨b, cb, rfl, _⟩ := h2
  have hs := sls_two w a b p.length ca q.length cb
  have HS := Lib.hid hs
  have B0 := Lib.hid ((Below.refl _ w).alloc (Nat.le_refl _) (.cells #[.slice a p.length ca, .slice b q.length cb] 23))
  clear hs
  by_cases hsh : p.length ≤ 100 ∧ q.length ≤ 100
  · have HB := Lib.hid (short_two (a := a) (b := b) (c := ca) (d := cb) hsh)
    obtain ⟨hp0, hq0⟩ := hsh
    have hp : p.length ≤ 1000000 := by omega
    have hq : q.length ≤ 1000000 := by omega
    by_cases he : errP p q = 0
    · have HE := Lib.hid he
      obtain ⟨g1, g2, g3⟩ := errP_zero he
      have G1 := Lib.hid g1
      have G2 := Lib.hid g2
      have G3 := Lib.hid g3
      clear he g1 g2 g3
      go_enter Try.func7, Try.ntmps7
      go_wp2_with fail
      refine (short_any _ _ _ HS.out (by simp)).mono ?_
      rintro e w1 ⟨rfl, rfl⟩
      rw [HB.out]
      go_wp2_with fail
      refine (refalike_any _ _ p q _ (H1.out.below B0.out) (H2.out.below B0.out) hp hq).mono ?_
      rintro e w1 ⟨rfl, n1, rfl⟩
      rw [HE.out]
      have B1 := Lib.hid (below_drewN' B0.out n1)
      go_wp2_with fail
      refine (refconj_any _ _ p q _ (H1.out.below B1.out) (H2.out.below B1.out) G1.out hq).mono ?_
      rcases hch : chs p q (cyc p).length with _ | js
      · have hno := cj_none G1.out G2.out G3.out hch
        have HCh := Lib.hid hch
        clear hch
        rintro e w2 ⟨⟨rfl, _⟩ | ⟨i, v, hi, hcj, _⟩, b2⟩
        · have B2 := Lib.hid (B1.out.trans (b2.mono B1.out.size))
          clear b2 hno
          go_wp2_with fail
          refine (conj_ok _ _ p q _ (H1.out.below B2.out) (H2.out.below B2.out) HE.out).mono ?_
          rintro e w3 ⟨hout, b3⟩
          rw [HCh.out] at hout
          obtain rfl : e = .returned (.tuple #[.slice none 0 0, .int .i64 6]) := hout
          have B3 := Lib.hid (B2.out.trans (b3.mono B2.out.size))
          clear b3
          go_wp2_with fail
          refine (is_bad _ _ 6 _ (Sl.nil _) (by decide)).mono ?_
          rintro e w4 ⟨rfl, rfl⟩
          go_wp2_with fail
          refine (alive_any _).mono ?_
          rintro e w5 ⟨rfl, b5⟩
          have B5 := Lib.hid (B3.out.trans (b5.mono B3.out.size))
          go_wp2
          go_ret
          exact ⟨rfl, B5.out⟩
        · exact absurd hcj (hno i hi)
      · obtain ⟨r, hr, hrq, hrc, hru⟩ := cj_some G1.out G2.out G3.out hch
        have HCh := Lib.hid hch
        clear hch
        rintro e w2 ⟨⟨rfl, hno⟩ | ⟨i, v, hi, hcj, hmin, rfl, O2⟩, b2⟩
        · exact absurd hrq (hno r hr)
        · have hir := hru i hi hcj hmin
          rw [hir, hrc] at O2
          have O2 := Lib.hid O2
          have hcl : (cf p q js (cyc p).length).length ≤ 1000000 := by rw [length_cf]; exact hp
          have B2 := Lib.hid (B1.out.trans (b2.mono B1.out.size))
          clear b2 hr hrq hrc hru hi hcj hmin hir
          go_wp2_with fail
          refine (conj_ok _ _ p q _ (H1.out.below B2.out) (H2.out.below B2.out) HE.out).mono ?_
          rintro e w3 ⟨hout, b3⟩
          rw [HCh.out] at hout
          obtain ⟨x, rfl, O3⟩ := hout
          have O2 := Lib.hid (O2.out.below b3)
          have O3 := Lib.hid O3
          have B3 := Lib.hid (B2.out.trans (b3.mono B2.out.size))
          clear b3
          go_wp2_with fail
          refine (is_ok _ _ _ _ O3.out.sl O2.out.sl hcl).mono ?_
          rintro e w4 ⟨rfl, n4, rfl⟩
          have B4 := Lib.hid (below_drewN' B3.out n4)
          go_wp2_with fail
          refine (alive_any _).mono ?_
          rintro e w5 ⟨rfl, b5⟩
          have B5 := Lib.hid (B4.out.trans (b5.mono B4.out.size))
          go_wp2
          go_ret
          exact ⟨rfl, B5.out⟩
    · have hne : (errP p q == 0) = false := by simp [he]
      have HN := Lib.hid he
      obtain ⟨E, hE⟩ : ∃ E, E = errP p q := ⟨_, rfl⟩
      rw [← hE] at hne
      have HE := Lib.hid hE
      clear he hE
      go_enter Try.func7, Try.ntmps7
      go_wp2_with fail
      refine (short_any _ _ _ HS.out (by simp)).mono ?_
      rintro e w1 ⟨rfl, rfl⟩
      rw [HB.out]
      go_wp2_with fail
      refine (refalike_any _ _ p q _ (H1.out.below B0.out) (H2.out.below B0.out) hp hq).mono ?_
      rintro e w1 ⟨rfl, n1, rfl⟩
      rw [← HE.out]
      have B3 := Lib.hid (below_drewN' B0.out n1)
      go_wp2_with fail
      refine (conj_bad _ _ p q _ (H1.out.below B3.out) (H2.out.below B3.out) hp hq HN.out).mono ?_
      rintro e w4 ⟨rfl, b4⟩
      rw [← HE.out]
      have B4 := Lib.hid (B3.out.trans (b4.mono B3.out.size))
      clear b4
      go_wp2_with fail
      refine (is_bad _ _ _ _ (Sl.nil _) (by rw [HE.out]; exact HN.out)).mono ?_
      rintro e w6 ⟨rfl, rfl⟩
      go_wp2_with fail
      refine (alive_any _).mono ?_
      rintro e w8 ⟨rfl, b8⟩
      have B8 := Lib.hid (B4.out.trans (b8.mono B4.out.size))
      go_wp2
      go_ret
      exact ⟨rfl, B8.out⟩
  · have HB := Lib.hid (short_two_no (a := a) (b := b) (c := ca) (d := cb) hsh)
    clear hsh
    go_enter Try.func7, Try.ntmps7
    go_wp2_with fail
    refine (short_any _ _ _ HS.out (by simp)).mono ?_
    rintro e w1 ⟨rfl, rfl⟩
    rw [HB.out]
    go_wp2_with fail
    refine (alive_any _).mono ?_
    rintro e w2 ⟨rfl, b2⟩
    have B2 := Lib.hid (B0.out.trans (b2.mono B0.out.size))
    clear b2
    go_wp2
    go_ret
    exact ⟨rfl, B2.out⟩
end Go.Proofs.Ytcnkegcogepimaa
