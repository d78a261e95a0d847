/- The statements' own 'usable' and 'mul', by their meaning. -/
import Derived.Test.YtcnkegcogepimaaDoorProg
import Derived.Test.YtcnkegcogepimaaDoorBase
import Derived.Test.YtcnkegcogepimaaDoorValid
import Derived.Test.YtcnkegcogepimaaDoorRef
import Derived.Lib.QuietBelow
import Derived.BigQuiet
namespace Go.Proofs.YtcnkegcogepimaaDoor
open Go.RowKit Go.Sort

def usableB (ps : List (List Int)) : Bool := decide (∀ i, i < ps.length → validL (ps.getD i []) = true ∧ (ps.getD i []).length = (ps.getD 0 []).length)
theorem usableB_yes {ps : List (List Int)} (h : ∀ i, i < ps.length → validL (ps.getD i []) = true ∧ (ps.getD i []).length = (ps.getD 0 []).length) : usableB ps = true := decide_eq_true h
theorem usableB_no {ps : List (List Int)} {i : Nat} (hi : i < ps.length) (h : ¬ (validL (ps.getD i []) = true ∧ (ps.getD i []).length = (ps.getD 0 []).length)) : usableB ps = false := decide_eq_false (fun hall => h (hall i hi))

set_option maxHeartbeats 1000000 in
theorem usable_any (v : Value) (vs : List Value) (ps : List (List Int)) (w : World) (h : Sls w v vs) (hl : vs.length ≤ 1000) (hps : ps.length = vs.length) (hs : ∀ i, i < vs.length → Sl w (vs.getD i undef) (ps.getD i [])) :
    Calls Tryd.prog 15 #[v] w fun e w' => e = .returned (.bool (usableB ps)) ∧ Below w.heap.size w w' := by
  have H := Lib.hid h
  obtain ⟨b, off, cap, rfl, hc⟩ := h
  have HC := Lib.hid hc
  have HS := Lib.hid hs
  have HP := Lib.hid hps
  have hlen : ∀ i, i < vs.length → lenOf (vs.getD i undef) = (ps.getD i []).length := fun i hi => by
    obtain ⟨a, c, e, _⟩ := hs i hi
    rw [e]; rfl
  have HL := Lib.hid hlen
  clear hc hs hps hlen
  rcases hsh : shortB vs with _ | _
  · have hno : usableB ps = false := by
      obtain ⟨i, hi, h1⟩ : ∃ i, i < vs.length ∧ ¬ lenOf (vs.getD i undef) ≤ 100 := by
        apply Classical.byContradiction
        intro hno
        have := shortB_yes (vs := vs) (fun i hi => Classical.byContradiction fun h => hno ⟨i, hi, h⟩)
        rw [this] at hsh; cases hsh
      refine usableB_no (i := i) (by have := HP.out; omega) (fun h => ?_)
      have := ((validL_iff _).1 h.1).2.1
      have := HL.out i hi
      omega
    have HNo := Lib.hid hno
    have HB := Lib.hid hsh
    clear hno hsh
    go_enter Tryd.func15, Tryd.ntmps15
    go_wp2_with fail
    refine (short_any _ _ _ H.out hl).mono ?_
    rintro e w1 ⟨rfl, rfl⟩
    rw [HB.out]
    go_wp2
    go_ret
    exact ⟨ret_bool HNo.out.symm, Below.refl _ _⟩
  · have HB := Lib.hid hsh
    have hsl : ∀ i, i < vs.length → (ps.getD i []).length ≤ 100 := fun i hi => by
      have := of_decide_eq_true (show decide (∀ i, i < vs.length → lenOf (vs.getD i undef) ≤ 100) = true from HB.out) i hi
      rwa [HL.out i hi] at this
    have HLe := Lib.hid hsl
    clear hsh hsl
    go_enter Tryd.func15, Tryd.ntmps15
    go_wp2_with fail
    refine (short_any _ _ _ H.out hl).mono ?_
    rintro e w1 ⟨rfl, rfl⟩
    rw [HB.out]
    go_wp2
    go_loopw [3] (fun i wr => ∃ k : Nat, k ≤ vs.length ∧ i = .int .i64 k ∧ Hid (∀ i, i < k → validL (ps.getD i []) = true ∧ (ps.getD i []).length = (ps.getD 0 []).length) ∧ Below w.heap.size w wr) (fun i _ => vs.length - (intOf i).toNat)
    case atStart => exact ⟨0, Nat.zero_le _, rfl, Lib.hid (fun i hi => by omega), Below.refl _ _⟩
    case round =>
      obtain ⟨k, hk, rfl, hg, hb⟩ := hrel
      by_cases hlt : k < vs.length
      · obtain ⟨g, a, n, c, e⟩ := HC.out k hlt
        obtain ⟨g0, a0, n0, c0, e0⟩ := HC.out 0 (by omega)
        have hbk : b < w.heap.size := World.block_lt_of_cell? w _ g
        have hnk := HL.out k hlt
        have hn0 := HL.out 0 (by omega)
        rw [e] at g hnk
        rw [e0] at g0 hn0
        simp only [lenOf] at hnk hn0
        have hsk := (HS.out k hlt).below hb
        rw [e] at hsk
        have HSk := Lib.hid hsk
        have hxk := HLe.out k hlt
        have g1 : wr.cell? ⟨b, off + k, none⟩ = some (.slice a n c) := (hb.cell (p := ⟨b, off + k, none⟩) hbk).trans g
        have g2 : wr.cell? ⟨b, off, none⟩ = some (.slice a0 n0 c0) := (hb.cell (p := ⟨b, off, none⟩) hbk).trans g0
        have hbr : b < wr.heap.size := by have := hb.size; omega
        clear e e0 hsk g g0
        rcases hv : validL (ps.getD k []) with _ | _
        · have hno := Lib.hid (usableB_no (ps := ps) (i := k) (by have := HP.out; omega) (by rw [hv]; simp))
          have HV := Lib.hid hv
          clear hv hnk hn0
          have k1 := cell_regrown g1
          have k2 := cell_regrown g2
          have cV : ∀ d os, Calls Tryd.prog 23 #[.slice a n c] (grow (redrawn wr d) os) fun e w'' => e = .returned (.bool false) ∧ ∃ p : Regrown, w'' = grow (redrawn wr p.d) p.os := fun d os => Calls.regrown_of ((valid_any _ _ _ (HSk.out.below (below_regrown wr d os)) (by omega)).mono fun _ _ ⟨he, hb⟩ => ⟨by rw [he, HV.out], hb⟩)
          go_wp2
          refine wp_region_quiet_below (by kernel_rfl) (by kernel_rfl) ?_
          repeat (go_big_quiet_step (exact cV _ _))
          refine wpQuiet_nil ?_
          intro _ hw'
          obtain ⟨⟨dq, osq⟩, hw''⟩ := hw'
          subst hw''
          have hb3 := below_regrown wr dq osq
          clear k1 k2 cV
          generalize grow (redrawn wr dq) osq = w3 at *
          go_wp2
          go_ret
          exact ⟨ret_bool hno.out.symm, hb.trans (hb3.mono hb.size)⟩
        have HV := Lib.hid hv
        have hn7 : n ≤ 7 := by have := ((validL_iff _).1 hv).2.1; omega
        by_cases hnn : n = n0
        · have hg2 : Hid (∀ i, i < k + 1 → validL (ps.getD i []) = true ∧ (ps.getD i []).length = (ps.getD 0 []).length) := Lib.hid (fun i hi => by
            by_cases e : i = k
            · subst e; exact ⟨HV.out, by omega⟩
            · exact hg.out i (by omega))
          have hne : ((n : Int) != (n0 : Int)) = false := by simp [hnn]
          have h7' : decide (7 < (n : Int)) = false := by simp; omega
          clear hv hnk hn0 hnn
          have k1 := cell_regrown g1
          have k2 := cell_regrown g2
          have cV : ∀ d os, Calls Tryd.prog 23 #[.slice a n c] (grow (redrawn wr d) os) fun e w'' => e = .returned (.bool true) ∧ ∃ p : Regrown, w'' = grow (redrawn wr p.d) p.os := fun d os => Calls.regrown_of ((valid_any _ _ _ (HSk.out.below (below_regrown wr d os)) (by omega)).mono fun _ _ ⟨he, hb⟩ => ⟨by rw [he, HV.out], hb⟩)
          go_wp2
          refine wp_region_quiet_below (by kernel_rfl) (by kernel_rfl) ?_
          repeat (go_big_quiet_step (exact cV _ _))
          refine wpQuiet_nil ?_
          intro _ hw'
          obtain ⟨⟨dq, osq⟩, hw''⟩ := hw'
          subst hw''
          have hb3 := below_regrown wr dq osq
          clear k1 k2 cV
          generalize grow (redrawn wr dq) osq = w3 at *
          go_wp2
          go_roundw
          case rel => exact ⟨k + 1, by omega, by go_num, hg2, hb.trans (hb3.mono hb.size)⟩
          case measure => simp [intOf]; omega
        · have hno := Lib.hid (usableB_no (ps := ps) (i := k) (by have := HP.out; omega) (by rw [← hnk, ← hn0]; exact fun h => hnn h.2))
          have hne : ((n : Int) != (n0 : Int)) = true := by simp; omega
          clear hv hnk hn0 hnn
          have k1 := cell_regrown g1
          have k2 := cell_regrown g2
          have cV : ∀ d os, Calls Tryd.prog 23 #[.slice a n c] (grow (redrawn wr d) os) fun e w'' => e = .returned (.bool true) ∧ ∃ p : Regrown, w'' = grow (redrawn wr p.d) p.os := fun d os => Calls.regrown_of ((valid_any _ _ _ (HSk.out.below (below_regrown wr d os)) (by omega)).mono fun _ _ ⟨he, hb⟩ => ⟨by rw [he, HV.out], hb⟩)
          go_wp2
          refine wp_region_quiet_below (by kernel_rfl) (by kernel_rfl) ?_
          repeat (go_big_quiet_step (exact cV _ _))
          refine wpQuiet_nil ?_
          intro _ hw'
          obtain ⟨⟨dq, osq⟩, hw''⟩ := hw'
          subst hw''
          have hb3 := below_regrown wr dq osq
          clear k1 k2 cV
          generalize grow (redrawn wr dq) osq = w3 at *
          go_wp2
          go_ret
          exact ⟨ret_bool hno.out.symm, hb.trans (hb3.mono hb.size)⟩
      · have hyes := Lib.hid (usableB_yes (ps := ps) (fun i hi => hg.out i (by have := HP.out; omega)))
        have hlt' : vs.length ≤ k := by omega
        go_wp2
        go_ret
        exact ⟨ret_bool hyes.out.symm, hb⟩
end Go.Proofs.YtcnkegcogepimaaDoor
