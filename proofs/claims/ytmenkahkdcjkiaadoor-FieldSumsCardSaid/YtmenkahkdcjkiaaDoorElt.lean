/- The statements' own functions add, mul and element by their meaning. -/
import Derived.Test.YtmenkahkdcjkiaaDoorProg
import Derived.Test.YtmenkahkdcjkiaaDoorBase
import Derived.Test.YtmenkahkdcjkiaaDoorFops
import Derived.Deep.QuietTactic
import Derived.BigQuiet
import Derived.Lib.QuietBelow
namespace Go.Proofs.YtmenkahkdcjkiaaDoor
open Go.RowKit Go.Sort

set_option maxHeartbeats 1000000 in
theorem ladd_any (p m a b : Nat) (w : World) (hw : Tab w) (h : Vf p m) (ha : a < fQ p m) (hb : b < fQ p m) : Calls Tryd.prog 35 #[.agg #[.int .i64 p, .int .i64 m], .int .i64 a, .int .i64 b] w fun e w' => e = .returned (.int .i64 (fadd p m a b : Nat)) ∧ Below w.heap.size w w' := by
  have HW := Lib.hid (hw.below ((Below.refl _ w).alloc (Nat.le_refl _) (.cells #[.int .i64 p, .int .i64 m] 23)))
  have B0 := Lib.hid ((Below.refl _ w).alloc (Nat.le_refl _) (.cells #[.int .i64 p, .int .i64 m] 23))
  have H := Lib.hid h
  have HA := Lib.hid ha
  have HB := Lib.hid hb
  clear h ha hb
  go_enter Tryd.func35, Tryd.ntmps35
  go_wp2_with fail
  refine (Add_yes p m a b _ HW.out H.out HA.out HB.out).mono ?_
  rintro e w1 ⟨rfl, b1⟩
  have B1 := Lib.hid (B0.out.trans (b1.mono B0.out.size))
  go_wp2_with fail
  go_ret
  exact ⟨rfl, B1.out⟩
set_option maxHeartbeats 1000000 in
theorem lmul_any (p m a b : Nat) (w : World) (hw : Tab w) (h : Vf p m) (ha : a < fQ p m) (hb : b < fQ p m) : Calls Tryd.prog 36 #[.agg #[.int .i64 p, .int .i64 m], .int .i64 a, .int .i64 b] w fun e w' => e = .returned (.int .i64 (fmul p m a b : Nat)) ∧ Below w.heap.size w w' := by
  have HW := Lib.hid (hw.below ((Below.refl _ w).alloc (Nat.le_refl _) (.cells #[.int .i64 p, .int .i64 m] 23)))
  have B0 := Lib.hid ((Below.refl _ w).alloc (Nat.le_refl _) (.cells #[.int .i64 p, .int .i64 m] 23))
  have H := Lib.hid h
  have HA := Lib.hid ha
  have HB := Lib.hid hb
  clear h ha hb
  go_enter Tryd.func36, Tryd.ntmps36
  go_wp2_with fail
  refine (Mul_yes p m a b _ HW.out H.out HA.out HB.out).mono ?_
  rintro e w1 ⟨rfl, b1⟩
  have B1 := Lib.hid (B0.out.trans (b1.mono B0.out.size))
  go_wp2_with fail
  go_ret
  exact ⟨rfl, B1.out⟩

set_option maxHeartbeats 1000000 in
theorem elt_form (P M : Int) (v : Value) (w : World) (hw : Tab w) (h : validF P M = false) : Calls Tryd.prog 34 #[.agg #[.int .i64 P, .int .i64 M], v] w fun e w' => e = .returned (.bool false) ∧ Below w.heap.size w w' := by
  have HW := Lib.hid (hw.below ((Below.refl _ w).alloc (Nat.le_refl _) (.cells #[.int .i64 P, .int .i64 M] 23)))
  have B0 := Lib.hid ((Below.refl _ w).alloc (Nat.le_refl _) (.cells #[.int .i64 P, .int .i64 M] 23))
  have H := Lib.hid h
  clear h
  go_enter Tryd.func34, Tryd.ntmps34
  go_wp2_with fail
  refine (valid_any P M _ HW.out).mono ?_
  rintro e w1 ⟨rfl, b1⟩
  rw [H.out]
  have B1 := Lib.hid (B0.out.trans (b1.mono B0.out.size))
  go_wp2_with fail
  go_ret
  exact ⟨rfl, B1.out⟩

/-- all of zs are elements -/
def allEl (p m : Nat) (zs : List Int) : Prop := ∀ i, i < zs.length → isEl p m (zs.getD i 0)
def allTo (p m : Nat) (zs : List Int) (k : Nat) : Prop := ∀ i, i < k → isEl p m (zs.getD i 0)

set_option maxRecDepth 100000 in
set_option maxHeartbeats 4000000 in
theorem elt_any (p m : Nat) (g : Nat) (zs : List Int) (w : World) (hw : Tab w) (h : Vf p m) (hg : Blk w g 3 (ints zs)) (hl : zs.length ≤ 1000) (B : Bool) (hB : B = true ↔ allEl p m zs) :
    Calls Tryd.prog 34 #[.agg #[.int .i64 p, .int .i64 m], .slice (some ⟨g, 0, none⟩) zs.length zs.length] w fun e w' => e = .returned (.bool B) ∧ Below w.heap.size w w' := by
  have HW := Lib.hid (hw.below ((Below.refl _ w).alloc (Nat.le_refl _) (.cells #[.int .i64 p, .int .i64 m] 23)))
  have B0 := Lib.hid ((Below.refl _ w).alloc (Nat.le_refl _) (.cells #[.int .i64 p, .int .i64 m] 23))
  have K0 := Lib.hid (Blk.new w 23 #[.int .i64 p, .int .i64 m])
  have G0 := Lib.hid (hg.alloc (.cells #[.int .i64 p, .int .i64 m] 23))
  have hq := h.q
  have H := Lib.hid h
  have HB := Lib.hid hB
  obtain ⟨q, hQ⟩ : ∃ q, q = fQ p m := ⟨_, rfl⟩
  rw [← hQ] at hq
  have HQ := Lib.hid hQ
  clear h hg hB hQ
  go_enter Tryd.func34, Tryd.ntmps34
  go_wp2_with fail
  refine (valid_any p m _ HW.out).mono ?_
  rintro e w1 ⟨rfl, b1⟩
  rw [H.out.valid]
  have B1 := Lib.hid (B0.out.trans (b1.mono B0.out.size))
  have W1 := Lib.hid (HW.out.below b1)
  have K1 := Lib.hid (K0.out.below b1)
  have G1 := Lib.hid (G0.out.below b1)
  clear b1
  go_wp2_with fail
  go_loopw [5] (fun iv wr => ∃ i : Nat, iv = .int .i64 i ∧ i ≤ zs.length ∧ Hid (allTo p m zs i) ∧ Hid (Below w.heap.size w wr) ∧ Hid (Tab wr) ∧ Hid (Blk wr w.heap.size 23 #[.int .i64 p, .int .i64 m]) ∧ Hid (Blk wr g 3 (ints zs))) (fun iv _ => zs.length - (intOf iv).toNat)
  case atStart => exact ⟨0, rfl, Nat.zero_le _, Lib.hid fun i hi => absurd hi (Nat.not_lt_zero i), B1, W1, K1, G1⟩
  case round =>
    obtain ⟨i, rfl, hi, hto, HBW, HT, HKB, HG⟩ := hrel
    by_cases hlt : i < zs.length
    · obtain ⟨x, hx⟩ : ∃ x, x = zs.getD i 0 := ⟨_, rfl⟩
      have g1 : wr.cell? ⟨g, i, none⟩ = some (.int .i64 x) := by rw [hx, HG.out.cell i]; exact ints_get zs i hlt
      have HX := Lib.hid hx
      have c0 : wr.cell? ⟨w.heap.size, 0, none⟩ = some (.int .i64 p) := HKB.out.cell 0
      have c1 : wr.cell? ⟨w.heap.size, 1, none⟩ = some (.int .i64 m) := HKB.out.cell 1
      have r1 := cell_regrown g1
      have r2 := cell_regrown c0
      have r3 := cell_regrown c1
      have cO : ∀ d os, Calls Tryd.prog 14 #[.agg #[.int .i64 p, .int .i64 m]] (grow (redrawn wr d) os) fun e w'' => e = .returned (.int .i64 q) ∧ ∃ p : Regrown, w'' = grow (redrawn wr p.d) p.os := fun d os => Calls.regrown_of (by rw [HQ.out]; exact Order_yes p m _ (HT.out.below (below_regrown wr d os)) H.out)
      clear hx
      by_cases h0 : x < 0
      · have HF := Lib.hid (show B = false by
          cases hBB : B with
          | false => rfl
          | true =>
            have := (HB.out.1 hBB i hlt).1
            rw [← HX.out] at this; omega)
        go_wp2_with fail
        refine wp_region_quiet_below (by kernel_rfl) (by kernel_rfl) ?_
        repeat (go_big_quiet_step (exact cO _ _))
        refine wpQuiet_nil ?_
        intro _ hw'
        obtain ⟨⟨dq, osq⟩, hw''⟩ := hw'
        subst hw''
        have hb9 := Lib.hid (HBW.out.trans ((below_regrown wr dq osq).mono HBW.out.size))
        clear r1 r2 r3 cO
        generalize grow (redrawn wr dq) osq = w9 at *
        go_wp2_with fail
        go_ret
        exact ⟨ret_bool HF.out.symm, hb9.out⟩
      · have h0' : decide (x < 0) = false := by simp; omega
        by_cases h1 : (q : Int) ≤ x
        · have HF := Lib.hid (show B = false by
            cases hBB : B with
            | false => rfl
            | true =>
              have := (HB.out.1 hBB i hlt).2
              rw [← HX.out, ← HQ.out] at this; omega)
          go_wp2_with fail
          refine wp_region_quiet_below (by kernel_rfl) (by kernel_rfl) ?_
          repeat (go_big_quiet_step (exact cO _ _))
          refine wpQuiet_nil ?_
          intro _ hw'
          obtain ⟨⟨dq, osq⟩, hw''⟩ := hw'
          subst hw''
          have hb9 := Lib.hid (HBW.out.trans ((below_regrown wr dq osq).mono HBW.out.size))
          clear r1 r2 r3 cO
          generalize grow (redrawn wr dq) osq = w9 at *
          go_wp2_with fail
          go_ret
          exact ⟨ret_bool HF.out.symm, hb9.out⟩
        · have HN := Lib.hid (show allTo p m zs (i + 1) from fun j hj => by
            by_cases e : j = i
            · subst e; rw [← HX.out]; exact ⟨by omega, by rw [← HQ.out]; omega⟩
            · exact hto.out j (by omega))
          have h1' : decide ((q : Int) ≤ x) = false := by simp; omega
          go_wp2_with fail
          refine wp_region_quiet_below (by kernel_rfl) (by kernel_rfl) ?_
          repeat (go_big_quiet_step (exact cO _ _))
          refine wpQuiet_nil ?_
          intro _ hw'
          obtain ⟨⟨dq, osq⟩, hw''⟩ := hw'
          subst hw''
          have hbb := below_regrown wr dq osq
          have hb9 := Lib.hid (HBW.out.trans (hbb.mono HBW.out.size))
          have hk9 := Lib.hid (HKB.out.below hbb)
          have hg9 := Lib.hid (HG.out.below hbb)
          have ht9 := Lib.hid (HT.out.below hbb)
          clear r1 r2 r3 cO hbb
          generalize grow (redrawn wr dq) osq = w9 at *
          go_wp2_with fail
          go_roundw
          case rel => exact ⟨i + 1, by go_num, by omega, HN, hb9, ht9, hk9, hg9⟩
          case measure => simp [intOf]; omega
    · have HF := Lib.hid (show B = true from HB.out.2 fun j hj => hto.out j (by omega))
      go_wp2_with fail
      go_ret
      exact ⟨ret_bool HF.out.symm, HBW.out⟩
end Go.Proofs.YtmenkahkdcjkiaaDoor
