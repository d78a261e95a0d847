/- The walks of the statements' own functions, twelfth part: PermBack. -/
import Derived.Test.YtcnkegcogepimaaDoorProg
import Derived.Test.YtcnkegcogepimaaDoorBase
import Derived.Test.YtcnkegcogepimaaDoorRef
import Derived.Test.YtcnkegcogepimaaDoorAlive
import Derived.Test.YtcnkegcogepimaaDoorUsable
import Derived.Test.YtcnkegcogepimaaDoorLawA
import Derived.Test.YtcnkegcogepimaaDoorRText
import Derived.Test.YtcnkegcogepimaaDoorParse
import Derived.Test.YtcnkegcogepimaaDoorLawK
namespace Go.Proofs.YtcnkegcogepimaaDoor
open Go.RowKit

theorem usableB_one {p : List Int} (h : usableB [p] = true) : validL p = true := by
  have := of_decide_eq_true (show decide (∀ i, i < [p].length → validL ([p].getD i []) = true ∧ ([p].getD i []).length = ([p].getD 0 []).length) = true from h)
  exact (this 0 (by simp)).1

set_option maxRecDepth 100000 in
set_option maxHeartbeats 4000000 in
theorem back_law (v1 : Value) (p : List Int) (s : List UInt8) (n : Int) (w : World) (h1 : Sl w v1 p) :
    Calls Tryd.prog 4 #[v1, .string (strB s), .int .i64 n] w fun e w' => e = .returned (.bool true) ∧ Below w.heap.size w w' := by
  have H1 := Lib.hid h1
  obtain ⟨a, ca, rfl, _⟩ := h1
  have hsz : (strB s).size = s.length := rfl
  have HS := Lib.hid (sls_one w a p.length ca)
  have B0 := Lib.hid ((Below.refl _ w).alloc (Nat.le_refl _) (.cells #[.slice a p.length ca] 23))
  have hall : ∀ i, i < [Value.slice a p.length ca].length → Sl (w.alloc (.cells #[.slice a p.length ca] 23)) ([Value.slice a p.length ca].getD i undef) ([p].getD i []) := fun i hi => by
    match i, hi with
    | 0, _ => exact H1.out.below B0.out
  have HA := Lib.hid hall
  clear hall
  by_cases hlong : 2000 < s.length
  · go_enter Tryd.func4, Tryd.ntmps4
    go_wp2_with fail
    refine (alive_any _).mono ?_
    rintro e w2 ⟨rfl, b2⟩
    have B2 := Lib.hid b2
    clear b2
    go_wp2
    go_ret
    exact ⟨rfl, B2.out⟩
  have hs2 : s.length ≤ 2000 := by omega
  have hlong2 : ¬ (2000 : Int) < (s.length : Int) := by omega
  have htl := toList_strB s
  clear hlong
  rcases hu : usableB [p] with _ | _
  · have HU := Lib.hid hu
    clear hu
    go_enter Tryd.func4, Tryd.ntmps4
    go_wp2_with fail
    refine (usable_any _ _ [p] _ HS.out (by simp) rfl HA.out).mono ?_
    rintro e w4 ⟨rfl, b4⟩
    rw [HU.out]
    have B4 := Lib.hid (B0.out.trans (b4.mono B0.out.size))
    clear b4
    by_cases hn : n < 1 ∨ 7 < n
    · go_wp2_with fail
      refine (pparse_bad s n _ hn).mono ?_
      rintro e w5 ⟨rfl, rfl⟩
      go_wp2_with fail
      refine (alive_any _).mono ?_
      rintro e w7 ⟨rfl, b7⟩
      have B7 := Lib.hid (B4.out.trans (b7.mono B4.out.size))
      go_wp2
      go_ret
      exact ⟨rfl, B7.out⟩
    · obtain ⟨m, rfl⟩ := Int.eq_ofNat_of_zero_le (show 0 ≤ n by omega)
      have m1 : 1 ≤ m := by omega
      have m7 : m ≤ 7 := by omega
      clear hn
      go_wp2_with fail
      refine (pparse_ok s m _ m1 m7 hs2).mono ?_
      rintro e w5 ⟨⟨o, hprs, hend⟩, b5⟩
      have HPrs := Lib.hid hprs
      have B5 := Lib.hid (B4.out.trans (b5.mono B4.out.size))
      clear hprs b5
      rcases o with _ | q
      · obtain rfl : e = .returned (.tuple #[.slice none 0 0, .int .i64 3]) := hend
        go_wp2_with fail
        refine (alive_any _).mono ?_
        rintro e w8 ⟨rfl, b8⟩
        have B8 := Lib.hid (B5.out.trans (b8.mono B5.out.size))
        go_wp2
        go_ret
        exact ⟨rfl, B8.out⟩
      · obtain ⟨x, rfl, O1⟩ := hend
        obtain ⟨q1, q2, q3⟩ := HPrs.out.1 q rfl
        have HO1 := Lib.hid O1
        obtain ⟨xa, xc, rfl, _⟩ := O1.sl
        have hql : q.length ≤ 1000000 := by omega
        have HE := Lib.hid (show errV q = 0 from if_pos q1)
        have HT := Lib.hid (show txtE q = s from (if_pos q1).trans q3)
        have hqm : ((q.length : Int) == (m : Int)) = true := by rw [beq_iff_eq]; omega
        clear O1 q1 q2 q3
        go_wp2_with fail
        refine (ptext_any _ q _ HO1.out.sl hql).mono ?_
        rintro e w6 ⟨rfl, b6⟩
        rw [HE.out, HT.out]
        have B6 := Lib.hid (B5.out.trans (b6.mono B5.out.size))
        clear b6
        go_wp2_with fail
        refine (alive_any _).mono ?_
        rintro e w8 ⟨rfl, b8⟩
        have B8 := Lib.hid (B6.out.trans (b8.mono B6.out.size))
        go_wp2
        go_ret
        exact ⟨rfl, B8.out⟩
  · have HU := Lib.hid hu
    have hv := usableB_one hu
    have h7 := ((validL_iff p).1 hv).2.1
    have h11 := ((validL_iff p).1 hv).1
    have hp : p.length ≤ 1000000 := by omega
    have V := Lib.hid hv
    have HE := Lib.hid (show errV p = 0 from if_pos hv)
    have HT := Lib.hid (show txtE p = txt p from if_pos hv)
    have htxl : (txt p).length ≤ 2000 := by have := (txt_len hv).2; omega
    have HPP : Hid (prs p.length (txt p) (some p)) := Lib.hid ⟨fun q hq => by
      cases hq
      exact ⟨hv, rfl, rfl⟩, fun h => by cases h⟩
    clear hu hv
    go_enter Tryd.func4, Tryd.ntmps4
    go_wp2_with fail
    refine (usable_any _ _ [p] _ HS.out (by simp) rfl HA.out).mono ?_
    rintro e w1 ⟨rfl, b1⟩
    rw [HU.out]
    have B1 := Lib.hid (B0.out.trans (b1.mono B0.out.size))
    clear b1
    go_wp2_with fail
    refine (ptext_any _ p _ (H1.out.below B1.out) hp).mono ?_
    rintro e w2 ⟨rfl, b2⟩
    rw [HE.out, HT.out]
    have B2 := Lib.hid (B1.out.trans (b2.mono B1.out.size))
    clear b2
    go_wp2_with fail
    refine (pparse_ok (txt p) p.length _ h11 h7 htxl).mono ?_
    rintro e w3 ⟨⟨o, hprs, hend⟩, b3⟩
    obtain rfl := prs_one HPP.out hprs
    obtain ⟨x, rfl, O1⟩ := hend
    have O1 := Lib.hid O1
    have B3 := Lib.hid (B2.out.trans (b3.mono B2.out.size))
    clear hprs b3
    go_wp2_with fail
    refine (same_any _ _ p p _ (H1.out.below B3.out) O1.out.sl hp hp).mono ?_
    rintro e w4 ⟨rfl, n4, rfl⟩
    rw [decide_eq_true rfl]
    have B4 := Lib.hid (below_drewN' B3.out n4)
    by_cases hn : n < 1 ∨ 7 < n
    · go_wp2_with fail
      refine (pparse_bad s n _ hn).mono ?_
      rintro e w5 ⟨rfl, rfl⟩
      go_wp2_with fail
      refine (alive_any _).mono ?_
      rintro e w7 ⟨rfl, b7⟩
      have B7 := Lib.hid (B4.out.trans (b7.mono B4.out.size))
      go_wp2
      go_ret
      exact ⟨rfl, B7.out⟩
    · obtain ⟨m, rfl⟩ := Int.eq_ofNat_of_zero_le (show 0 ≤ n by omega)
      have m1 : 1 ≤ m := by omega
      have m7 : m ≤ 7 := by omega
      clear hn
      go_wp2_with fail
      refine (pparse_ok s m _ m1 m7 hs2).mono ?_
      rintro e w5 ⟨⟨o, hprs, hend⟩, b5⟩
      have HPrs := Lib.hid hprs
      have B5 := Lib.hid (B4.out.trans (b5.mono B4.out.size))
      clear hprs b5
      rcases o with _ | q
      · obtain rfl : e = .returned (.tuple #[.slice none 0 0, .int .i64 3]) := hend
        go_wp2_with fail
        refine (alive_any _).mono ?_
        rintro e w8 ⟨rfl, b8⟩
        have B8 := Lib.hid (B5.out.trans (b8.mono B5.out.size))
        go_wp2
        go_ret
        exact ⟨rfl, B8.out⟩
      · obtain ⟨x, rfl, O1⟩ := hend
        obtain ⟨q1, q2, q3⟩ := HPrs.out.1 q rfl
        have HO1 := Lib.hid O1
        obtain ⟨xa, xc, rfl, _⟩ := O1.sl
        have hql : q.length ≤ 1000000 := by omega
        have HE := Lib.hid (show errV q = 0 from if_pos q1)
        have HT := Lib.hid (show txtE q = s from (if_pos q1).trans q3)
        have hqm : ((q.length : Int) == (m : Int)) = true := by rw [beq_iff_eq]; omega
        clear O1 q1 q2 q3
        go_wp2_with fail
        refine (ptext_any _ q _ HO1.out.sl hql).mono ?_
        rintro e w6 ⟨rfl, b6⟩
        rw [HE.out, HT.out]
        have B6 := Lib.hid (B5.out.trans (b6.mono B5.out.size))
        clear b6
        go_wp2_with fail
        refine (alive_any _).mono ?_
        rintro e w8 ⟨rfl, b8⟩
        have B8 := Lib.hid (B6.out.trans (b8.mono B6.out.size))
        go_wp2
        go_ret
        exact ⟨rfl, B8.out⟩
/-- what the rows' frame says of a slice's capacity -/
theorem cap_of_row {w : World} {a : Option Addr} {len cap : Nat} {zs : List Int} {P : Prop}
    (h : (a = none ∧ len = 0 ∧ cap = 0 ∧ zs = []) ∨ ∃ x, a = some x ∧ len ≤ cap ∧ cap ≤ maxLen ∧ zs.length = cap ∧ (∀ i, i < zs.length → w.cell? (x.add i) = some (.int .i64 (zs.getD i 0))) ∧ P) :
    ∀ b n c, Value.slice a len cap = .slice b n c → n ≤ c := by
  intro b n c e
  cases e
  rcases h with ⟨_, rfl, rfl, _⟩ | ⟨_, _, h, _⟩
  · exact Nat.le_refl _
  · exact h
theorem texts_frame (v1 : Value) (p : List Int) (s : ByteArray) (n : Int) (w : World) (h1 : Sl w v1 p) (hcap : ∀ a n c, v1 = .slice a n c → n ≤ c) :
    Calls Tryd.prog 3 #[v1, .string s, .int .i64 n] w fun e w' => e = .returned (.bool true) ∧ Below w.heap.size w w' := by
  have h := texts_law v1 p s.data.toList n w h1 hcap
  rwa [strB_data] at h
theorem back_frame (v1 : Value) (p : List Int) (s : ByteArray) (n : Int) (w : World) (h1 : Sl w v1 p) :
    Calls Tryd.prog 4 #[v1, .string s, .int .i64 n] w fun e w' => e = .returned (.bool true) ∧ Below w.heap.size w w' := by
  have h := back_law v1 p s.data.toList n w h1
  rwa [strB_data] at h
end Go.Proofs.YtcnkegcogepimaaDoor
