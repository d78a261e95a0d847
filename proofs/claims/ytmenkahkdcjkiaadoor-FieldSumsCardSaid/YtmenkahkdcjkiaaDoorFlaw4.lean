/- The walk of FieldLaws. -/
import Derived.Test.YtmenkahkdcjkiaaDoorProg
import Derived.Test.YtmenkahkdcjkiaaDoorBase
import Derived.Test.YtmenkahkdcjkiaaDoorFops
import Derived.Test.YtmenkahkdcjkiaaDoorFinv
import Derived.Test.YtmenkahkdcjkiaaDoorRmet
import Derived.Test.YtmenkahkdcjkiaaDoorAlive3
import Derived.Test.YtmenkahkdcjkiaaDoorElt
import Derived.Test.YtmenkahkdcjkiaaDoorQLex
namespace Go.Proofs.YtmenkahkdcjkiaaDoor
open Go.RowKit Go.Sort

theorem fadd_neg {p m b : Nat} (h : Vf p m) (hb : b < fQ p m) : fadd p m b (fneg p m b) = 0 := by
  unfold fadd fneg
  split
  · rename_i hm
    subst hm
    have hb' : b < p := hb
    by_cases h0 : b = 0
    · subst h0; simp
    · rw [Nat.mod_eq_of_lt (show p - b < p by omega), show b + (p - b) = p from by omega, Nat.mod_self]
  · exact Nat.xor_self b
theorem fsub_add {p m a b : Nat} (h : Vf p m) (ha : a < fQ p m) (hb : b < fQ p m) : fsub p m (fadd p m a b) b = a := by
  have F := h.fld
  rw [fsub_eq, F.add_assoc a b _ ha hb (fneg_lt h hb), fadd_neg h hb, F.add_zero a ha]

/-- the elements of an array that was boxed, as a slice -/
theorem ints3 (a b c : Int) : ints [a, b, c] = #[.int .i64 a, .int .i64 b, .int .i64 c] := rfl
theorem allEl3 {p m : Nat} {a b c : Int} : allEl p m [a, b, c] ↔ isEl p m a ∧ isEl p m b ∧ isEl p m c := by
  unfold allEl
  constructor
  · intro h; exact ⟨h 0 (by simp), h 1 (by simp), h 2 (by simp)⟩
  · rintro ⟨h0, h1, h2⟩ i hi
    match i, hi with
    | 0, _ => exact h0
    | 1, _ => exact h1
    | 2, _ => exact h2

theorem elt_no (P M : Int) (g n : Nat) (zs : List Int) (w : World) (hw : Tab w) (hg : Blk w g 3 (ints zs)) (hl : zs.length ≤ 1000) (hn : n = zs.length) (h : ∀ p m : Nat, P = p → M = m → Vf p m → ¬ allEl p m zs) :
    Calls Tryd.prog 34 #[.agg #[.int .i64 P, .int .i64 M], .slice (some ⟨g, 0, none⟩) n n] w fun e w' => e = .returned (.bool false) ∧ Below w.heap.size w w' := by
  subst hn
  cases hv : validF P M with
  | false => exact elt_form P M _ w hw hv
  | true =>
    obtain ⟨p, m, rfl, rfl, h2⟩ := Vf.of hv
    exact elt_any p m g zs w hw h2 hg hl false ⟨fun e => (by cases e), fun e => absurd e (h p m rfl rfl h2)⟩
theorem elt_yes (p m : Nat) (g n : Nat) (zs : List Int) (w : World) (hw : Tab w) (hv : Vf p m) (hg : Blk w g 3 (ints zs)) (hl : zs.length ≤ 1000) (hn : n = zs.length) (h : allEl p m zs) :
    Calls Tryd.prog 34 #[.agg #[.int .i64 p, .int .i64 m], .slice (some ⟨g, 0, none⟩) n n] w fun e w' => e = .returned (.bool true) ∧ Below w.heap.size w w' := by
  subst hn
  exact elt_any p m g zs w hw hv hg hl true ⟨fun _ => h, fun _ => rfl⟩

set_option maxRecDepth 100000 in
set_option maxHeartbeats 4000000 in
theorem flaws_no (P M a b c : Int) (w : World) (hw : Tab w) (h : ∀ p m : Nat, P = p → M = m → Vf p m → ¬ (isEl p m a ∧ isEl p m b ∧ isEl p m c)) : Calls Tryd.prog 7 #[.agg #[.int .i64 P, .int .i64 M], .agg #[.int .i64 a, .int .i64 b, .int .i64 c]] w fun e w' => e = .returned (.bool true) ∧ Below w.heap.size w w' := by
  obtain ⟨W, hW⟩ : ∃ W, W = (w.alloc (.cells #[.int .i64 P, .int .i64 M] 23)).alloc (.cells #[.int .i64 a, .int .i64 b, .int .i64 c] 40) := ⟨_, rfl⟩
  have B0 : Below w.heap.size w W := by rw [hW]; exact ((Below.refl _ w).alloc (Nat.le_refl _) _).alloc (by simp) _
  have W0 := hw.below B0
  have K0 : Blk W w.heap.size 23 #[.int .i64 P, .int .i64 M] := by rw [hW]; exact (Blk.new _ _ _).alloc _
  have A0 : Blk W (w.heap.size + 1) 40 #[.int .i64 a, .int .i64 b, .int .i64 c] := by
    rw [hW]
    have := Blk.new (w.alloc (.cells #[.int .i64 P, .int .i64 M] 23)) 40 #[.int .i64 a, .int .i64 b, .int .i64 c]
    rwa [World.size_alloc] at this
  have HH := Lib.hid h
  have HB0 := Lib.hid B0
  have HW0 := Lib.hid W0
  have HK0 := Lib.hid K0
  have HA0 := Lib.hid A0
  have HWW := Lib.hid hW
  clear h B0 W0 K0 A0 hW
  go_enter Tryd.func7, Tryd.ntmps7
  go_wp2_with fail
  rw [← HWW.out]
  have a0 := HA0.out.cell 0
  have a1 := HA0.out.cell 1
  have a2 := HA0.out.cell 2
  simp at a0 a1 a2
  go_quiet (fail)
  have B1 := Lib.hid (below_drewN' HB0.out nq)
  have W1 := Lib.hid (HW0.out.below (below_drewN' (Below.refl _ W) nq))
  have K1 := Lib.hid (HK0.out.drew nq)
  clear a0 a1 a2
  obtain ⟨w1, hw1⟩ : ∃ w1, w1 = W.drewN nq := ⟨_, rfl⟩
  rw [← hw1] at B1 W1 K1 ⊢
  clear hw1
  have c0 : w1.cell? ⟨w.heap.size, 0, none⟩ = some (.int .i64 P) := K1.out.cell 0
  have c1 : w1.cell? ⟨w.heap.size, 1, none⟩ = some (.int .i64 M) := K1.out.cell 1
  go_wp2_with fail
  refine (elt_no P M w1.heap.size 3 [a, b, c] _ (W1.out.below ((Below.refl _ w1).alloc (Nat.le_refl _) _)) (Blk.new w1 3 (ints [a, b, c])) (by simp) rfl (fun p m e1 e2 hv h3 => HH.out p m e1 e2 hv (allEl3.1 h3))).mono ?_
  rintro e w2 ⟨rfl, b2⟩
  have B2 := Lib.hid ((B1.out.alloc B1.out.size _).trans (b2.mono (by have := B1.out.size; simp; omega)))
  have W2 := Lib.hid ((W1.out.below ((Below.refl _ w1).alloc (Nat.le_refl _) _)).below b2)
  clear b2 c0 c1
  go_wp2_with fail
  refine (alive_any _ W2.out).mono ?_
  rintro e w3 ⟨rfl, b3⟩
  have B3 := Lib.hid (B2.out.trans (b3.mono B2.out.size))
  clear b3
  go_wp2_with fail
  go_ret
  exact ⟨rfl, B3.out⟩

set_option maxRecDepth 100000 in
set_option maxHeartbeats 8000000 in
theorem flaws_yes (p m a b c : Nat) (w : World) (hw : Tab w) (h : Vf p m) (ha : a < fQ p m) (hb : b < fQ p m) (hc : c < fQ p m) : Calls Tryd.prog 7 #[.agg #[.int .i64 p, .int .i64 m], .agg #[.int .i64 a, .int .i64 b, .int .i64 c]] w fun e w' => e = .returned (.bool true) ∧ Below w.heap.size w w' := by
  obtain ⟨W, hW⟩ : ∃ W, W = (w.alloc (.cells #[.int .i64 p, .int .i64 m] 23)).alloc (.cells #[.int .i64 a, .int .i64 b, .int .i64 c] 40) := ⟨_, rfl⟩
  have B0 : Below w.heap.size w W := by rw [hW]; exact ((Below.refl _ w).alloc (Nat.le_refl _) _).alloc (by simp) _
  have W0 := hw.below B0
  have K0 : Blk W w.heap.size 23 #[.int .i64 p, .int .i64 m] := by rw [hW]; exact (Blk.new _ _ _).alloc _
  have A0 : Blk W (w.heap.size + 1) 40 #[.int .i64 a, .int .i64 b, .int .i64 c] := by
    rw [hW]
    have := Blk.new (w.alloc (.cells #[.int .i64 p, .int .i64 m] 23)) 40 #[.int .i64 a, .int .i64 b, .int .i64 c]
    rwa [World.size_alloc] at this
  have F := h.fld
  have hq := h.q
  have L0 := Lib.hid (show 0 < fQ p m by omega)
  have L1 := Lib.hid (show 1 < fQ p m by omega)
  obtain ⟨AB, EAB⟩ : ∃ AB, AB = fadd p m a b := ⟨_, rfl⟩
  obtain ⟨BC, EBC⟩ : ∃ BC, BC = fadd p m b c := ⟨_, rfl⟩
  obtain ⟨S, ES1⟩ : ∃ S, S = fadd p m AB c := ⟨_, rfl⟩
  obtain ⟨PAB, EPAB⟩ : ∃ PAB, PAB = fmul p m a b := ⟨_, rfl⟩
  obtain ⟨PBC, EPBC⟩ : ∃ PBC, PBC = fmul p m b c := ⟨_, rfl⟩
  obtain ⟨PAC, EPAC⟩ : ∃ PAC, PAC = fmul p m a c := ⟨_, rfl⟩
  obtain ⟨PM, EPM1⟩ : ∃ PM, PM = fmul p m PAB c := ⟨_, rfl⟩
  obtain ⟨D, ED1⟩ : ∃ D, D = fmul p m a BC := ⟨_, rfl⟩
  have EBA := Lib.hid (show fadd p m b a = AB by rw [EAB, F.add_comm b a hb ha])
  have ES2 := Lib.hid (show fadd p m a BC = S by rw [ES1, EAB, EBC, F.add_assoc a b c ha hb hc])
  have EPBA := Lib.hid (show fmul p m b a = PAB by rw [EPAB, F.mul_comm b a hb ha])
  have EPM2 := Lib.hid (show fmul p m a PBC = PM by rw [EPM1, EPAB, EPBC, F.mul_assoc a b c ha hb hc])
  have ED2 := Lib.hid (show fadd p m PAB PAC = D by rw [ED1, EPAB, EPAC, EBC, F.distrib a b c ha hb hc])
  have EA0 := Lib.hid (show fadd p m a 0 = a from F.add_zero a ha)
  have EM1 := Lib.hid (show fmul p m a 1 = a from F.mul_one a ha)
  have EM0 := Lib.hid (show fmul p m a 0 = 0 from F.mul_zero ha)
  have ESU := Lib.hid (show fsub p m AB b = a by rw [EAB, fsub_add h ha hb])
  have LAB := Lib.hid (show AB < fQ p m by rw [EAB]; exact F.add_lt _ _ ha hb)
  have LBC := Lib.hid (show BC < fQ p m by rw [EBC]; exact F.add_lt _ _ hb hc)
  have LPAB := Lib.hid (show PAB < fQ p m by rw [EPAB]; exact F.mul_lt _ _ ha hb)
  have LPBC := Lib.hid (show PBC < fQ p m by rw [EPBC]; exact F.mul_lt _ _ hb hc)
  have LPAC := Lib.hid (show PAC < fQ p m by rw [EPAC]; exact F.mul_lt _ _ ha hc)
  have HEAB := Lib.hid EAB.symm
  have HEBC := Lib.hid EBC.symm
  have HES1 := Lib.hid ES1.symm
  have HEPAB := Lib.hid EPAB.symm
  have HEPBC := Lib.hid EPBC.symm
  have HEPAC := Lib.hid EPAC.symm
  have HEPM1 := Lib.hid EPM1.symm
  have HED1 := Lib.hid ED1.symm
  clear EAB EBC ES1 EPAB EPBC EPAC EPM1 ED1
  have HI : ∃ vi ei : Nat, (∀ w, Tab w → Calls Tryd.prog 26 #[.agg #[.int .i64 p, .int .i64 m], .int .i64 a] w fun e w' => e = .returned (.tuple #[.int .i64 vi, .int .i64 ei]) ∧ Below w.heap.size w w') ∧ ((a = 0 ∧ vi = 0 ∧ ei = 6) ∨ (0 < a ∧ vi < fQ p m ∧ fmul p m a vi = 1 ∧ ei = 0)) := by
    by_cases h0 : a = 0
    · subst h0; exact ⟨0, 6, fun w hw => Inverse_zero p m w hw h, .inl ⟨rfl, rfl, rfl⟩⟩
    · exact ⟨_, 0, fun w hw => Inverse_yes p m a w hw h ha (by omega), .inr ⟨by omega, F.pw_lt ha _, F.mul_inv ha h0, rfl⟩⟩
  obtain ⟨vi, ei, hinv, hcase⟩ := HI
  have HINV := Lib.hid hinv
  have HCASE := Lib.hid hcase
  have H := Lib.hid h
  have HA := Lib.hid ha
  have HB := Lib.hid hb
  have HC := Lib.hid hc
  have HB0 := Lib.hid B0
  have HW0 := Lib.hid W0
  have HK0 := Lib.hid K0
  have HA0 := Lib.hid A0
  have HWW := Lib.hid hW
  clear h ha hb hc hq F B0 W0 K0 A0 hW hinv hcase
  go_enter Tryd.func7, Tryd.ntmps7
  go_wp2_with fail
  rw [← HWW.out]
  have a0 := HA0.out.cell 0
  have a1 := HA0.out.cell 1
  have a2 := HA0.out.cell 2
  simp at a0 a1 a2
  go_quiet (fail)
  have B1 := Lib.hid (below_drewN' HB0.out nq)
  have W1 := Lib.hid (HW0.out.below (below_drewN' (Below.refl _ W) nq))
  have K1 := Lib.hid (HK0.out.drew nq)
  clear a0 a1 a2
  obtain ⟨w1, hw1⟩ : ∃ w1, w1 = W.drewN nq := ⟨_, rfl⟩
  rw [← hw1] at B1 W1 K1 ⊢
  clear hw1
  have c0 : w1.cell? ⟨w.heap.size, 0, none⟩ = some (.int .i64 p) := K1.out.cell 0
  have c1 : w1.cell? ⟨w.heap.size, 1, none⟩ = some (.int .i64 m) := K1.out.cell 1
  go_wp2_with fail
  refine (elt_yes p m w1.heap.size 3 [(a : Int), b, c] _ (W1.out.below ((Below.refl _ w1).alloc (Nat.le_refl _) _)) H.out (Blk.new w1 3 (ints [(a : Int), b, c])) (by simp) rfl (allEl3.2 ⟨⟨by omega, by have := HA.out; omega⟩, ⟨by omega, by have := HB.out; omega⟩, ⟨by omega, by have := HC.out; omega⟩⟩)).mono ?_
  rintro e w2 ⟨rfl, b2⟩
  have B2 := Lib.hid ((B1.out.alloc B1.out.size _).trans (b2.mono (by have := B1.out.size; simp; omega)))
  have W2 := Lib.hid ((W1.out.below ((Below.refl _ w1).alloc (Nat.le_refl _) _)).below b2)
  have K2 := Lib.hid ((K1.out.alloc (.cells #[.int .i64 a, .int .i64 b, .int .i64 c] 3)).below b2)
  clear b2 c0 c1
  go_wp2_with fail
  have r0 := cell_regrown (show w2.cell? ⟨w.heap.size, 0, none⟩ = some (.int .i64 p) from K2.out.cell 0)
  have r1 := cell_regrown (show w2.cell? ⟨w.heap.size, 1, none⟩ = some (.int .i64 m) from K2.out.cell 1)
  have c1 : ∀ d os, Calls Tryd.prog 35 #[.agg #[.int .i64 p, .int .i64 m], .int .i64 a, .int .i64 b] (grow (redrawn w2 d) os) fun e w'' => e = .returned (.int .i64 AB) ∧ ∃ p : Regrown, w'' = grow (redrawn w2 p.d) p.os := fun d os => Calls.regrown_of (by have h0 := ladd_any p m a b _ (W2.out.below (below_regrown w2 d os)) H.out HA.out HB.out; rw [HEAB.out] at h0; exact h0)
  have cS : ∀ d os, Calls Tryd.prog 18 #[.agg #[.int .i64 p, .int .i64 m], .int .i64 AB, .int .i64 b] (grow (redrawn w2 d) os) fun e w'' => e = .returned (.tuple #[.int .i64 a, .int .i64 0]) ∧ ∃ p : Regrown, w'' = grow (redrawn w2 p.d) p.os := fun d os => Calls.regrown_of (by have h0 := Sub_yes p m AB b _ (W2.out.below (below_regrown w2 d os)) H.out LAB.out HB.out; rw [ESU.out] at h0; exact h0)
  refine wp_region_quiet_below (by kernel_rfl) (by kernel_rfl) ?_
  repeat (go_big_quiet_step (with_reducible first | exact c1 _ _ | exact cS _ _))
  refine wpQuiet_nil ?_
  intro _ hw'
  obtain ⟨⟨dq, osq⟩, hw''⟩ := hw'
  subst hw''
  have hbb := below_regrown w2 dq osq
  have B3 := Lib.hid (B2.out.trans (hbb.mono B2.out.size))
  have W3 := Lib.hid (W2.out.below hbb)
  have K3 := Lib.hid (K2.out.below hbb)
  clear r0 r1 c1 cS hbb
  generalize grow (redrawn w2 dq) osq = w3 at *
  have c0 : w3.cell? ⟨w.heap.size, 0, none⟩ = some (.int .i64 p) := K3.out.cell 0
  have c1 : w3.cell? ⟨w.heap.size, 1, none⟩ = some (.int .i64 m) := K3.out.cell 1
  go_wp2_with fail
  refine (HINV.out _ W3.out).mono ?_
  rintro e w4 ⟨rfl, b4⟩
  have B4 := Lib.hid (B3.out.trans (b4.mono B3.out.size))
  have W4 := Lib.hid (W3.out.below b4)
  have K4 := Lib.hid (K3.out.below b4)
  clear b4 c0 c1
  have c0 : w4.cell? ⟨w.heap.size, 0, none⟩ = some (.int .i64 p) := K4.out.cell 0
  have c1 : w4.cell? ⟨w.heap.size, 1, none⟩ = some (.int .i64 m) := K4.out.cell 1
  rcases HCASE.out with ⟨h0, rfl, rfl⟩ | ⟨h0, hv, hm, rfl⟩
  · as_aux_lemma =>
    have DZ : ((a : Int) == 0) = true := by simp; omega
    have DN : ((a : Int) != 0) = false := by simp; omega
    clear h0
    go_wp2_with fail
    clear c0 c1
    have r0 := cell_regrown (show w4.cell? ⟨w.heap.size, 0, none⟩ = some (.int .i64 p) from K4.out.cell 0)
    have r1 := cell_regrown (show w4.cell? ⟨w.heap.size, 1, none⟩ = some (.int .i64 m) from K4.out.cell 1)
    have f1 : ∀ d os, Calls Tryd.prog 35 #[.agg #[.int .i64 p, .int .i64 m], .int .i64 a, .int .i64 b] (grow (redrawn w4 d) os) fun e w'' => e = .returned (.int .i64 AB) ∧ ∃ p : Regrown, w'' = grow (redrawn w4 p.d) p.os := fun d os => Calls.regrown_of (by have h0 := ladd_any p m a b _ (W4.out.below (below_regrown w4 d os)) H.out HA.out HB.out; rw [HEAB.out] at h0; exact h0)
    have f2 : ∀ d os, Calls Tryd.prog 35 #[.agg #[.int .i64 p, .int .i64 m], .int .i64 b, .int .i64 a] (grow (redrawn w4 d) os) fun e w'' => e = .returned (.int .i64 AB) ∧ ∃ p : Regrown, w'' = grow (redrawn w4 p.d) p.os := fun d os => Calls.regrown_of (by have h0 := ladd_any p m b a _ (W4.out.below (below_regrown w4 d os)) H.out HB.out HA.out; rw [EBA.out] at h0; exact h0)
    have f3 : ∀ d os, Calls Tryd.prog 35 #[.agg #[.int .i64 p, .int .i64 m], .int .i64 AB, .int .i64 c] (grow (redrawn w4 d) os) fun e w'' => e = .returned (.int .i64 S) ∧ ∃ p : Regrown, w'' = grow (redrawn w4 p.d) p.os := fun d os => Calls.regrown_of (by have h0 := ladd_any p m AB c _ (W4.out.below (below_regrown w4 d os)) H.out LAB.out HC.out; rw [HES1.out] at h0; exact h0)
    have f4 : ∀ d os, Calls Tryd.prog 35 #[.agg #[.int .i64 p, .int .i64 m], .int .i64 b, .int .i64 c] (grow (redrawn w4 d) os) fun e w'' => e = .returned (.int .i64 BC) ∧ ∃ p : Regrown, w'' = grow (redrawn w4 p.d) p.os := fun d os => Calls.regrown_of (by have h0 := ladd_any p m b c _ (W4.out.below (below_regrown w4 d os)) H.out HB.out HC.out; rw [HEBC.out] at h0; exact h0)
    have f5 : ∀ d os, Calls Tryd.prog 35 #[.agg #[.int .i64 p, .int .i64 m], .int .i64 a, .int .i64 BC] (grow (redrawn w4 d) os) fun e w'' => e = .returned (.int .i64 S) ∧ ∃ p : Regrown, w'' = grow (redrawn w4 p.d) p.os := fun d os => Calls.regrown_of (by have h0 := ladd_any p m a BC _ (W4.out.below (below_regrown w4 d os)) H.out HA.out LBC.out; rw [ES2.out] at h0; exact h0)
    have f6 : ∀ d os, Calls Tryd.prog 36 #[.agg #[.int .i64 p, .int .i64 m], .int .i64 a, .int .i64 b] (grow (redrawn w4 d) os) fun e w'' => e = .returned (.int .i64 PAB) ∧ ∃ p : Regrown, w'' = grow (redrawn w4 p.d) p.os := fun d os => Calls.regrown_of (by have h0 := lmul_any p m a b _ (W4.out.below (below_regrown w4 d os)) H.out HA.out HB.out; rw [HEPAB.out] at h0; exact h0)
    have f7 : ∀ d os, Calls Tryd.prog 36 #[.agg #[.int .i64 p, .int .i64 m], .int .i64 b, .int .i64 a] (grow (redrawn w4 d) os) fun e w'' => e = .returned (.int .i64 PAB) ∧ ∃ p : Regrown, w'' = grow (redrawn w4 p.d) p.os := fun d os => Calls.regrown_of (by have h0 := lmul_any p m b a _ (W4.out.below (below_regrown w4 d os)) H.out HB.out HA.out; rw [EPBA.out] at h0; exact h0)
    have f8 : ∀ d os, Calls Tryd.prog 36 #[.agg #[.int .i64 p, .int .i64 m], .int .i64 PAB, .int .i64 c] (grow (redrawn w4 d) os) fun e w'' => e = .returned (.int .i64 PM) ∧ ∃ p : Regrown, w'' = grow (redrawn w4 p.d) p.os := fun d os => Calls.regrown_of (by have h0 := lmul_any p m PAB c _ (W4.out.below (below_regrown w4 d os)) H.out LPAB.out HC.out; rw [HEPM1.out] at h0; exact h0)
    have f9 : ∀ d os, Calls Tryd.prog 36 #[.agg #[.int .i64 p, .int .i64 m], .int .i64 b, .int .i64 c] (grow (redrawn w4 d) os) fun e w'' => e = .returned (.int .i64 PBC) ∧ ∃ p : Regrown, w'' = grow (redrawn w4 p.d) p.os := fun d os => Calls.regrown_of (by have h0 := lmul_any p m b c _ (W4.out.below (below_regrown w4 d os)) H.out HB.out HC.out; rw [HEPBC.out] at h0; exact h0)
    have f10 : ∀ d os, Calls Tryd.prog 36 #[.agg #[.int .i64 p, .int .i64 m], .int .i64 a, .int .i64 PBC] (grow (redrawn w4 d) os) fun e w'' => e = .returned (.int .i64 PM) ∧ ∃ p : Regrown, w'' = grow (redrawn w4 p.d) p.os := fun d os => Calls.regrown_of (by have h0 := lmul_any p m a PBC _ (W4.out.below (below_regrown w4 d os)) H.out HA.out LPBC.out; rw [EPM2.out] at h0; exact h0)
    have f11 : ∀ d os, Calls Tryd.prog 36 #[.agg #[.int .i64 p, .int .i64 m], .int .i64 a, .int .i64 BC] (grow (redrawn w4 d) os) fun e w'' => e = .returned (.int .i64 D) ∧ ∃ p : Regrown, w'' = grow (redrawn w4 p.d) p.os := fun d os => Calls.regrown_of (by have h0 := lmul_any p m a BC _ (W4.out.below (below_regrown w4 d os)) H.out HA.out LBC.out; rw [HED1.out] at h0; exact h0)
    have f12 : ∀ d os, Calls Tryd.prog 36 #[.agg #[.int .i64 p, .int .i64 m], .int .i64 a, .int .i64 c] (grow (redrawn w4 d) os) fun e w'' => e = .returned (.int .i64 PAC) ∧ ∃ p : Regrown, w'' = grow (redrawn w4 p.d) p.os := fun d os => Calls.regrown_of (by have h0 := lmul_any p m a c _ (W4.out.below (below_regrown w4 d os)) H.out HA.out HC.out; rw [HEPAC.out] at h0; exact h0)
    have f13 : ∀ d os, Calls Tryd.prog 35 #[.agg #[.int .i64 p, .int .i64 m], .int .i64 PAB, .int .i64 PAC] (grow (redrawn w4 d) os) fun e w'' => e = .returned (.int .i64 D) ∧ ∃ p : Regrown, w'' = grow (redrawn w4 p.d) p.os := fun d os => Calls.regrown_of (by have h0 := ladd_any p m PAB PAC _ (W4.out.below (below_regrown w4 d os)) H.out LPAB.out LPAC.out; rw [ED2.out] at h0; exact h0)
    have f14 : ∀ d os, Calls Tryd.prog 35 #[.agg #[.int .i64 p, .int .i64 m], .int .i64 a, .int .i64 0] (grow (redrawn w4 d) os) fun e w'' => e = .returned (.int .i64 a) ∧ ∃ p : Regrown, w'' = grow (redrawn w4 p.d) p.os := fun d os => Calls.regrown_of (by have h0 := ladd_any p m a 0 _ (W4.out.below (below_regrown w4 d os)) H.out HA.out L0.out; rw [EA0.out] at h0; exact h0)
    have f15 : ∀ d os, Calls Tryd.prog 36 #[.agg #[.int .i64 p, .int .i64 m], .int .i64 a, .int .i64 1] (grow (redrawn w4 d) os) fun e w'' => e = .returned (.int .i64 a) ∧ ∃ p : Regrown, w'' = grow (redrawn w4 p.d) p.os := fun d os => Calls.regrown_of (by have h0 := lmul_any p m a 1 _ (W4.out.below (below_regrown w4 d os)) H.out HA.out L1.out; rw [EM1.out] at h0; exact h0)
    have f16 : ∀ d os, Calls Tryd.prog 36 #[.agg #[.int .i64 p, .int .i64 m], .int .i64 a, .int .i64 0] (grow (redrawn w4 d) os) fun e w'' => e = .returned (.int .i64 0) ∧ ∃ p : Regrown, w'' = grow (redrawn w4 p.d) p.os := fun d os => Calls.regrown_of (by have h0 := lmul_any p m a 0 _ (W4.out.below (below_regrown w4 d os)) H.out HA.out L0.out; rw [EM0.out] at h0; exact h0)
    have fal : ∀ d os, Calls Tryd.prog 16 #[] (grow (redrawn w4 d) os) fun e w'' => e = .returned (.bool true) ∧ ∃ p : Regrown, w'' = grow (redrawn w4 p.d) p.os := fun d os => Calls.regrown_of (alive_any _ (W4.out.below (below_regrown w4 d os)))
    refine wp_region_quiet_below (by kernel_rfl) (lexB_of (by kernel_rfl) (by kernel_rfl)) ?_
    dsimp only [List.append]
    iterate 27 (go_big_quiet_step (with_reducible first | exact f1 _ _ | exact f2 _ _ | exact f3 _ _ | exact f4 _ _ | exact f5 _ _ | exact f6 _ _ | exact f7 _ _ | exact f8 _ _ | exact f9 _ _ | exact f10 _ _ | exact f11 _ _ | exact f12 _ _ | exact f13 _ _ | exact f14 _ _ | exact f15 _ _ | exact f16 _ _ | exact fal _ _))
    as_aux_lemma =>
      iterate 27 (go_big_quiet_step (with_reducible first | exact f1 _ _ | exact f2 _ _ | exact f3 _ _ | exact f4 _ _ | exact f5 _ _ | exact f6 _ _ | exact f7 _ _ | exact f8 _ _ | exact f9 _ _ | exact f10 _ _ | exact f11 _ _ | exact f12 _ _ | exact f13 _ _ | exact f14 _ _ | exact f15 _ _ | exact f16 _ _ | exact fal _ _))
      as_aux_lemma =>
        iterate 27 (go_big_quiet_step (with_reducible first | exact f1 _ _ | exact f2 _ _ | exact f3 _ _ | exact f4 _ _ | exact f5 _ _ | exact f6 _ _ | exact f7 _ _ | exact f8 _ _ | exact f9 _ _ | exact f10 _ _ | exact f11 _ _ | exact f12 _ _ | exact f13 _ _ | exact f14 _ _ | exact f15 _ _ | exact f16 _ _ | exact fal _ _))
        as_aux_lemma =>
          repeat (go_big_quiet_step (with_reducible first | exact f1 _ _ | exact f2 _ _ | exact f3 _ _ | exact f4 _ _ | exact f5 _ _ | exact f6 _ _ | exact f7 _ _ | exact f8 _ _ | exact f9 _ _ | exact f10 _ _ | exact f11 _ _ | exact f12 _ _ | exact f13 _ _ | exact f14 _ _ | exact f15 _ _ | exact f16 _ _ | exact fal _ _))
          refine wpQuiet_nil ?_
          intro _ hw'
          obtain ⟨⟨dq, osq⟩, hw''⟩ := hw'
          subst hw''
          have B9 := Lib.hid (B4.out.trans ((below_regrown w4 dq osq).mono B4.out.size))
          clear r0 r1 f1 f2 f3 f4 f5 f6 f7 f8 f9 f10 f11 f12 f13 f14 f15 f16 fal
          generalize grow (redrawn w4 dq) osq = w9 at *
          go_wp2_with fail
          go_ret
          exact ⟨rfl, B9.out⟩
  · as_aux_lemma =>
    have DZ : ((a : Int) == 0) = false := by simp; omega
    have DN : ((a : Int) != 0) = true := by simp; omega
    have HV := Lib.hid hv
    have HM := Lib.hid hm
    clear h0 hv hm
    go_wp2_with fail
    refine (lmul_any p m a vi _ W4.out H.out HA.out HV.out).mono ?_
    rintro e w5 ⟨rfl, b5⟩
    rw [HM.out]
    have B5 := Lib.hid (B4.out.trans (b5.mono B4.out.size))
    have W5 := Lib.hid (W4.out.below b5)
    have K5 := Lib.hid (K4.out.below b5)
    clear b5 c0 c1
    go_wp2_with fail
    have r0 := cell_regrown (show w5.cell? ⟨w.heap.size, 0, none⟩ = some (.int .i64 p) from K5.out.cell 0)
    have r1 := cell_regrown (show w5.cell? ⟨w.heap.size, 1, none⟩ = some (.int .i64 m) from K5.out.cell 1)
    have f1 : ∀ d os, Calls Tryd.prog 35 #[.agg #[.int .i64 p, .int .i64 m], .int .i64 a, .int .i64 b] (grow (redrawn w5 d) os) fun e w'' => e = .returned (.int .i64 AB) ∧ ∃ p : Regrown, w'' = grow (redrawn w5 p.d) p.os := fun d os => Calls.regrown_of (by have h0 := ladd_any p m a b _ (W5.out.below (below_regrown w5 d os)) H.out HA.out HB.out; rw [HEAB.out] at h0; exact h0)
    have f2 : ∀ d os, Calls Tryd.prog 35 #[.agg #[.int .i64 p, .int .i64 m], .int .i64 b, .int .i64 a] (grow (redrawn w5 d) os) fun e w'' => e = .returned (.int .i64 AB) ∧ ∃ p : Regrown, w'' = grow (redrawn w5 p.d) p.os := fun d os => Calls.regrown_of (by have h0 := ladd_any p m b a _ (W5.out.below (below_regrown w5 d os)) H.out HB.out HA.out; rw [EBA.out] at h0; exact h0)
    have f3 : ∀ d os, Calls Tryd.prog 35 #[.agg #[.int .i64 p, .int .i64 m], .int .i64 AB, .int .i64 c] (grow (redrawn w5 d) os) fun e w'' => e = .returned (.int .i64 S) ∧ ∃ p : Regrown, w'' = grow (redrawn w5 p.d) p.os := fun d os => Calls.regrown_of (by have h0 := ladd_any p m AB c _ (W5.out.below (below_regrown w5 d os)) H.out LAB.out HC.out; rw [HES1.out] at h0; exact h0)
    have f4 : ∀ d os, Calls Tryd.prog 35 #[.agg #[.int .i64 p, .int .i64 m], .int .i64 b, .int .i64 c] (grow (redrawn w5 d) os) fun e w'' => e = .returned (.int .i64 BC) ∧ ∃ p : Regrown, w'' = grow (redrawn w5 p.d) p.os := fun d os => Calls.regrown_of (by have h0 := ladd_any p m b c _ (W5.out.below (below_regrown w5 d os)) H.out HB.out HC.out; rw [HEBC.out] at h0; exact h0)
    have f5 : ∀ d os, Calls Tryd.prog 35 #[.agg #[.int .i64 p, .int .i64 m], .int .i64 a, .int .i64 BC] (grow (redrawn w5 d) os) fun e w'' => e = .returned (.int .i64 S) ∧ ∃ p : Regrown, w'' = grow (redrawn w5 p.d) p.os := fun d os => Calls.regrown_of (by have h0 := ladd_any p m a BC _ (W5.out.below (below_regrown w5 d os)) H.out HA.out LBC.out; rw [ES2.out] at h0; exact h0)
    have f6 : ∀ d os, Calls Tryd.prog 36 #[.agg #[.int .i64 p, .int .i64 m], .int .i64 a, .int .i64 b] (grow (redrawn w5 d) os) fun e w'' => e = .returned (.int .i64 PAB) ∧ ∃ p : Regrown, w'' = grow (redrawn w5 p.d) p.os := fun d os => Calls.regrown_of (by have h0 := lmul_any p m a b _ (W5.out.below (below_regrown w5 d os)) H.out HA.out HB.out; rw [HEPAB.out] at h0; exact h0)
    have f7 : ∀ d os, Calls Tryd.prog 36 #[.agg #[.int .i64 p, .int .i64 m], .int .i64 b, .int .i64 a] (grow (redrawn w5 d) os) fun e w'' => e = .returned (.int .i64 PAB) ∧ ∃ p : Regrown, w'' = grow (redrawn w5 p.d) p.os := fun d os => Calls.regrown_of (by have h0 := lmul_any p m b a _ (W5.out.below (below_regrown w5 d os)) H.out HB.out HA.out; rw [EPBA.out] at h0; exact h0)
    have f8 : ∀ d os, Calls Tryd.prog 36 #[.agg #[.int .i64 p, .int .i64 m], .int .i64 PAB, .int .i64 c] (grow (redrawn w5 d) os) fun e w'' => e = .returned (.int .i64 PM) ∧ ∃ p : Regrown, w'' = grow (redrawn w5 p.d) p.os := fun d os => Calls.regrown_of (by have h0 := lmul_any p m PAB c _ (W5.out.below (below_regrown w5 d os)) H.out LPAB.out HC.out; rw [HEPM1.out] at h0; exact h0)
    have f9 : ∀ d os, Calls Tryd.prog 36 #[.agg #[.int .i64 p, .int .i64 m], .int .i64 b, .int .i64 c] (grow (redrawn w5 d) os) fun e w'' => e = .returned (.int .i64 PBC) ∧ ∃ p : Regrown, w'' = grow (redrawn w5 p.d) p.os := fun d os => Calls.regrown_of (by have h0 := lmul_any p m b c _ (W5.out.below (below_regrown w5 d os)) H.out HB.out HC.out; rw [HEPBC.out] at h0; exact h0)
    have f10 : ∀ d os, Calls Tryd.prog 36 #[.agg #[.int .i64 p, .int .i64 m], .int .i64 a, .int .i64 PBC] (grow (redrawn w5 d) os) fun e w'' => e = .returned (.int .i64 PM) ∧ ∃ p : Regrown, w'' = grow (redrawn w5 p.d) p.os := fun d os => Calls.regrown_of (by have h0 := lmul_any p m a PBC _ (W5.out.below (below_regrown w5 d os)) H.out HA.out LPBC.out; rw [EPM2.out] at h0; exact h0)
    have f11 : ∀ d os, Calls Tryd.prog 36 #[.agg #[.int .i64 p, .int .i64 m], .int .i64 a, .int .i64 BC] (grow (redrawn w5 d) os) fun e w'' => e = .returned (.int .i64 D) ∧ ∃ p : Regrown, w'' = grow (redrawn w5 p.d) p.os := fun d os => Calls.regrown_of (by have h0 := lmul_any p m a BC _ (W5.out.below (below_regrown w5 d os)) H.out HA.out LBC.out; rw [HED1.out] at h0; exact h0)
    have f12 : ∀ d os, Calls Tryd.prog 36 #[.agg #[.int .i64 p, .int .i64 m], .int .i64 a, .int .i64 c] (grow (redrawn w5 d) os) fun e w'' => e = .returned (.int .i64 PAC) ∧ ∃ p : Regrown, w'' = grow (redrawn w5 p.d) p.os := fun d os => Calls.regrown_of (by have h0 := lmul_any p m a c _ (W5.out.below (below_regrown w5 d os)) H.out HA.out HC.out; rw [HEPAC.out] at h0; exact h0)
    have f13 : ∀ d os, Calls Tryd.prog 35 #[.agg #[.int .i64 p, .int .i64 m], .int .i64 PAB, .int .i64 PAC] (grow (redrawn w5 d) os) fun e w'' => e = .returned (.int .i64 D) ∧ ∃ p : Regrown, w'' = grow (redrawn w5 p.d) p.os := fun d os => Calls.regrown_of (by have h0 := ladd_any p m PAB PAC _ (W5.out.below (below_regrown w5 d os)) H.out LPAB.out LPAC.out; rw [ED2.out] at h0; exact h0)
    have f14 : ∀ d os, Calls Tryd.prog 35 #[.agg #[.int .i64 p, .int .i64 m], .int .i64 a, .int .i64 0] (grow (redrawn w5 d) os) fun e w'' => e = .returned (.int .i64 a) ∧ ∃ p : Regrown, w'' = grow (redrawn w5 p.d) p.os := fun d os => Calls.regrown_of (by have h0 := ladd_any p m a 0 _ (W5.out.below (below_regrown w5 d os)) H.out HA.out L0.out; rw [EA0.out] at h0; exact h0)
    have f15 : ∀ d os, Calls Tryd.prog 36 #[.agg #[.int .i64 p, .int .i64 m], .int .i64 a, .int .i64 1] (grow (redrawn w5 d) os) fun e w'' => e = .returned (.int .i64 a) ∧ ∃ p : Regrown, w'' = grow (redrawn w5 p.d) p.os := fun d os => Calls.regrown_of (by have h0 := lmul_any p m a 1 _ (W5.out.below (below_regrown w5 d os)) H.out HA.out L1.out; rw [EM1.out] at h0; exact h0)
    have f16 : ∀ d os, Calls Tryd.prog 36 #[.agg #[.int .i64 p, .int .i64 m], .int .i64 a, .int .i64 0] (grow (redrawn w5 d) os) fun e w'' => e = .returned (.int .i64 0) ∧ ∃ p : Regrown, w'' = grow (redrawn w5 p.d) p.os := fun d os => Calls.regrown_of (by have h0 := lmul_any p m a 0 _ (W5.out.below (below_regrown w5 d os)) H.out HA.out L0.out; rw [EM0.out] at h0; exact h0)
    have fal : ∀ d os, Calls Tryd.prog 16 #[] (grow (redrawn w5 d) os) fun e w'' => e = .returned (.bool true) ∧ ∃ p : Regrown, w'' = grow (redrawn w5 p.d) p.os := fun d os => Calls.regrown_of (alive_any _ (W5.out.below (below_regrown w5 d os)))
    refine wp_region_quiet_below (by kernel_rfl) (lexB_of (by kernel_rfl) (by kernel_rfl)) ?_
    dsimp only [List.append]
    iterate 27 (go_big_quiet_step (with_reducible first | exact f1 _ _ | exact f2 _ _ | exact f3 _ _ | exact f4 _ _ | exact f5 _ _ | exact f6 _ _ | exact f7 _ _ | exact f8 _ _ | exact f9 _ _ | exact f10 _ _ | exact f11 _ _ | exact f12 _ _ | exact f13 _ _ | exact f14 _ _ | exact f15 _ _ | exact f16 _ _ | exact fal _ _))
    as_aux_lemma =>
      iterate 27 (go_big_quiet_step (with_reducible first | exact f1 _ _ | exact f2 _ _ | exact f3 _ _ | exact f4 _ _ | exact f5 _ _ | exact f6 _ _ | exact f7 _ _ | exact f8 _ _ | exact f9 _ _ | exact f10 _ _ | exact f11 _ _ | exact f12 _ _ | exact f13 _ _ | exact f14 _ _ | exact f15 _ _ | exact f16 _ _ | exact fal _ _))
      as_aux_lemma =>
        iterate 27 (go_big_quiet_step (with_reducible first | exact f1 _ _ | exact f2 _ _ | exact f3 _ _ | exact f4 _ _ | exact f5 _ _ | exact f6 _ _ | exact f7 _ _ | exact f8 _ _ | exact f9 _ _ | exact f10 _ _ | exact f11 _ _ | exact f12 _ _ | exact f13 _ _ | exact f14 _ _ | exact f15 _ _ | exact f16 _ _ | exact fal _ _))
        as_aux_lemma =>
          repeat (go_big_quiet_step (with_reducible first | exact f1 _ _ | exact f2 _ _ | exact f3 _ _ | exact f4 _ _ | exact f5 _ _ | exact f6 _ _ | exact f7 _ _ | exact f8 _ _ | exact f9 _ _ | exact f10 _ _ | exact f11 _ _ | exact f12 _ _ | exact f13 _ _ | exact f14 _ _ | exact f15 _ _ | exact f16 _ _ | exact fal _ _))
          refine wpQuiet_nil ?_
          intro _ hw'
          obtain ⟨⟨dq, osq⟩, hw''⟩ := hw'
          subst hw''
          have B9 := Lib.hid (B5.out.trans ((below_regrown w5 dq osq).mono B5.out.size))
          clear r0 r1 f1 f2 f3 f4 f5 f6 f7 f8 f9 f10 f11 f12 f13 f14 f15 f16 fal
          generalize grow (redrawn w5 dq) osq = w9 at *
          go_wp2_with fail
          go_ret
          exact ⟨rfl, B9.out⟩

theorem flaws_law (P M a b c : Int) (w : World) (hw : Tab w) : Calls Tryd.prog 7 #[.agg #[.int .i64 P, .int .i64 M], .agg #[.int .i64 a, .int .i64 b, .int .i64 c]] w fun e w' => e = .returned (.bool true) ∧ Below w.heap.size w w' := by
  by_cases h : ∃ p m : Nat, P = p ∧ M = m ∧ Vf p m ∧ (isEl p m a ∧ isEl p m b ∧ isEl p m c)
  · obtain ⟨p, m, rfl, rfl, hv, ⟨ha0, ha⟩, ⟨hb0, hb⟩, hc0, hc⟩ := h
    obtain ⟨x, rfl⟩ := Int.eq_ofNat_of_zero_le ha0
    obtain ⟨y, rfl⟩ := Int.eq_ofNat_of_zero_le hb0
    obtain ⟨z, rfl⟩ := Int.eq_ofNat_of_zero_le hc0
    exact flaws_yes p m x y z w hw hv (by omega) (by omega) (by omega)
  · exact flaws_no P M a b c w hw fun p m e1 e2 hv h3 => h ⟨p, m, e1, e2, hv, h3⟩
end Go.Proofs.YtmenkahkdcjkiaaDoor
