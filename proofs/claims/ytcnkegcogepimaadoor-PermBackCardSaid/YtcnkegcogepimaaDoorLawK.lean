/- The walks of the statements' own functions, eleventh part: PermTexts. -/
import Derived.Test.YtcnkegcogepimaaDoorProg
import Derived.Test.YtcnkegcogepimaaDoorBase
import Derived.Test.YtcnkegcogepimaaDoorRef
import Derived.Test.YtcnkegcogepimaaDoorAlive
import Derived.Test.YtcnkegcogepimaaDoorLawA
import Derived.Test.YtcnkegcogepimaaDoorRText
import Derived.Test.YtcnkegcogepimaaDoorRParse
import Derived.Test.YtcnkegcogepimaaDoorRRank
namespace Go.Proofs.YtcnkegcogepimaaDoor
open Go.RowKit

theorem strB_data (s : ByteArray) : strB s.data.toList = s := by
  apply ByteArray.ext
  simp [strB]
theorem one_short {a : Option Addr} {n c : Nat} (h : n ≤ 100) : shortB [.slice a n c] = true := shortB_yes fun i hi => by
  match i, hi with
  | 0, _ => exact h
theorem one_short_no {a : Option Addr} {n c : Nat} (h : ¬ n ≤ 100) : shortB [.slice a n c] = false := shortB_no (i := 0) (by simp) h

set_option maxRecDepth 100000 in
set_option maxHeartbeats 4000000 in
theorem texts_law (v1 : Value) (p : List Int) (s : List UInt8) (n : Int) (w : World) (h1 : Sl w v1 p) (hcap : ∀ a n c, v1 = .slice a n c → n ≤ c) :
    Calls Tryd.prog 3 #[v1, .string (strB s), .int .i64 n] w fun e w' => e = .returned (.bool true) ∧ Below w.heap.size w w' := by
  have H1 := Lib.hid h1
  have HCap := Lib.hid hcap
  obtain ⟨a, ca, rfl, _⟩ := h1
  have hsz : (strB s).size = s.length := rfl
  have HS := Lib.hid (sls_one w a p.length ca)
  have B0 := Lib.hid ((Below.refl _ w).alloc (Nat.le_refl _) (.cells #[.slice a p.length ca] 23))
  clear hcap
  by_cases hsh : p.length ≤ 100
  · have HB := Lib.hid (one_short (a := a) (c := ca) hsh)
    have hp : p.length ≤ 1000000 := by omega
    by_cases hlong : 2000 < s.length
    · go_enter Tryd.func3, Tryd.ntmps3
      go_wp2_with fail
      refine (short_any _ _ _ HS.out (by simp)).mono ?_
      rintro e w1 ⟨rfl, rfl⟩
      rw [HB.out]
      go_wp2_with fail
      refine (alive_any _).mono ?_
      rintro e w2 ⟨rfl, b2⟩
      have B2 := Lib.hid (B0.out.trans (b2.mono B0.out.size))
      clear b2
      go_wp2
      go_ret
      exact ⟨rfl, B2.out⟩
    have hs2 : s.length ≤ 2000 := by omega
    have hlong2 : ¬ (2000 : Int) < (s.length : Int) := by omega
    clear hlong
    rcases hv : validL p with _ | _
    · have V := Lib.hid hv
      have HE := Lib.hid (show errV p = 1 from if_neg (by rw [hv]; decide))
      have HT := Lib.hid (show txtE p = [] from if_neg (by rw [hv]; decide))
      have htl := toList_strB []
      clear hv
      go_enter Tryd.func3, Tryd.ntmps3
      go_wp2_with fail
      refine (short_any _ _ _ HS.out (by simp)).mono ?_
      rintro e w1 ⟨rfl, rfl⟩
      rw [HB.out]
      go_wp2_with fail
      refine (refvalid_any _ p _ (H1.out.below B0.out) hp).mono ?_
      rintro e w1 ⟨rfl, n1, rfl⟩
      rw [V.out]
      have B1 := Lib.hid (below_drewN' B0.out n1)
      go_wp2_with fail
      refine (ptext_any _ p _ (H1.out.below B1.out) hp).mono ?_
      rintro e w3 ⟨rfl, b3⟩
      rw [HE.out, HT.out]
      have B3 := Lib.hid (B1.out.trans (b3.mono B1.out.size))
      clear b3
      go_wp2_with fail
      refine (Rank_bad _ p _ (H1.out.below B3.out) V.out hp).mono ?_
      rintro e w4 ⟨rfl, b4⟩
      have B4 := Lib.hid (B3.out.trans (b4.mono B3.out.size))
      clear b4
      have he0 : (⟨#[]⟩ : ByteArray) = strB [] := rfl
      by_cases hn : n < 1 ∨ 7 < n
      · have HN := Lib.hid hn
        go_wp2_with fail
        refine (pparse_bad s n _ hn).mono ?_
        rintro e w5 ⟨rfl, rfl⟩
        rcases HN.out with hn1 | hn7
        · clear hn
          go_wp2_with fail
          refine (is_bad _ _ 2 _ (Sl.nil _) (by decide)).mono ?_
          rintro e w6 ⟨rfl, rfl⟩
          go_wp2_with fail
          refine (alive_any _).mono ?_
          rintro e w7 ⟨rfl, b7⟩
          have B7 := Lib.hid (B4.out.trans (b7.mono B4.out.size))
          go_wp2
          go_ret
          exact ⟨rfl, B7.out⟩
        · have hn1 : ¬ n < 1 := by omega
          clear hn
          go_wp2_with fail
          refine (is_bad _ _ 2 _ (Sl.nil _) (by decide)).mono ?_
          rintro e w6 ⟨rfl, rfl⟩
          go_wp2_with fail
          refine (alive_any _).mono ?_
          rintro e w7 ⟨rfl, b7⟩
          have B7 := Lib.hid (B4.out.trans (b7.mono B4.out.size))
          go_wp2
          go_ret
          exact ⟨rfl, B7.out⟩
      · obtain ⟨m, rfl⟩ := Int.eq_ofNat_of_zero_le (show 0 ≤ n by omega)
        have m1 : 1 ≤ m := by omega
        have m7 : m ≤ 7 := by omega
        have i1 : ¬ (m : Int) < 1 := by omega
        have i7 : ¬ (7 : Int) < (m : Int) := by omega
        clear hn
        go_wp2_with fail
        refine (pparse_ok s m _ m1 m7 hs2).mono ?_
        rintro e w5 ⟨⟨o, hprs, hend⟩, b5⟩
        have HPrs := Lib.hid hprs
        have B5 := Lib.hid (B4.out.trans (b5.mono B4.out.size))
        clear hprs b5
        rcases o with _ | q
        · obtain rfl : e = .returned (.tuple #[.slice none 0 0, .int .i64 3]) := hend
          go_wp2_with fail
          refine (refparse_ok s m _ m1 m7 hs2).mono ?_
          rintro e w6 ⟨⟨o2, hprs2, hend2⟩, b6⟩
          obtain rfl := prs_one HPrs.out hprs2
          obtain rfl : e = .returned (.tuple #[.slice none 0 0, .bool false]) := hend2
          have B6 := Lib.hid (B5.out.trans (b6.mono B5.out.size))
          clear hprs2 b6
          go_wp2_with fail
          refine (is_bad _ _ 3 _ (Sl.nil _) (by decide)).mono ?_
          rintro e w7 ⟨rfl, rfl⟩
          go_wp2_with fail
          refine (alive_any _).mono ?_
          rintro e w8 ⟨rfl, b8⟩
          have B8 := Lib.hid (B6.out.trans (b8.mono B6.out.size))
          go_wp2
          go_ret
          exact ⟨rfl, B8.out⟩
        · obtain ⟨x, rfl, O1⟩ := hend
          have O1 := Lib.hid O1
          have hql : q.length ≤ 1000000 := by have := (HPrs.out.1 q rfl).2.1; omega
          go_wp2_with fail
          refine (refparse_ok s m _ m1 m7 hs2).mono ?_
          rintro e w6 ⟨⟨o2, hprs2, hend2⟩, b6⟩
          obtain rfl := prs_one HPrs.out hprs2
          obtain ⟨y, rfl, O2⟩ := hend2
          have O1 := Lib.hid (O1.out.below b6)
          have O2 := Lib.hid O2
          have B6 := Lib.hid (B5.out.trans (b6.mono B5.out.size))
          clear hprs2 b6
          go_wp2_with fail
          refine (is_ok _ _ q _ O1.out.sl O2.out.sl hql).mono ?_
          rintro e w7 ⟨rfl, n7, rfl⟩
          have B7 := Lib.hid (below_drewN' B6.out n7)
          go_wp2_with fail
          refine (alive_any _).mono ?_
          rintro e w8 ⟨rfl, b8⟩
          have B8 := Lib.hid (B7.out.trans (b8.mono B7.out.size))
          go_wp2
          go_ret
          exact ⟨rfl, B8.out⟩
    · have V := Lib.hid hv
      have HE := Lib.hid (show errV p = 0 from if_pos hv)
      have HT := Lib.hid (show txtE p = txt p from if_pos hv)
      have h7 := ((validL_iff p).1 hv).2.1
      have htl := toList_strB (txt p)
      clear hv
      go_enter Tryd.func3, Tryd.ntmps3
      go_wp2_with fail
      refine (short_any _ _ _ HS.out (by simp)).mono ?_
      rintro e w1 ⟨rfl, rfl⟩
      rw [HB.out]
      go_wp2_with fail
      refine (refvalid_any _ p _ (H1.out.below B0.out) hp).mono ?_
      rintro e w1 ⟨rfl, n1, rfl⟩
      rw [V.out]
      have B1 := Lib.hid (below_drewN' B0.out n1)
      go_wp2_with fail
      refine (reftext_yes _ p _ (H1.out.below B1.out) V.out).mono ?_
      rintro e w2 ⟨rfl, b2⟩
      have B2 := Lib.hid (B1.out.trans (b2.mono B1.out.size))
      clear b2
      go_wp2_with fail
      refine (refrank_any _ p _ (H1.out.below B2.out) h7).mono ?_
      rintro e w2 ⟨rfl, n2, rfl⟩
      have B2 := Lib.hid (below_drewN' B2.out n2)
      go_wp2_with fail
      refine (ptext_any _ p _ (H1.out.below B2.out) hp).mono ?_
      rintro e w3 ⟨rfl, b3⟩
      rw [HE.out, HT.out]
      have B3 := Lib.hid (B2.out.trans (b3.mono B2.out.size))
      clear b3
      go_wp2_with fail
      refine (Rank_ok _ p _ (H1.out.below B3.out) V.out HCap.out).mono ?_
      rintro e w4 ⟨rfl, b4⟩
      have B4 := Lib.hid (B3.out.trans (b4.mono B3.out.size))
      clear b4
      by_cases hn : n < 1 ∨ 7 < n
      · have HN := Lib.hid hn
        go_wp2_with fail
        refine (pparse_bad s n _ hn).mono ?_
        rintro e w5 ⟨rfl, rfl⟩
        rcases HN.out with hn1 | hn7
        · clear hn
          go_wp2_with fail
          refine (is_bad _ _ 2 _ (Sl.nil _) (by decide)).mono ?_
          rintro e w6 ⟨rfl, rfl⟩
          go_wp2_with fail
          refine (alive_any _).mono ?_
          rintro e w7 ⟨rfl, b7⟩
          have B7 := Lib.hid (B4.out.trans (b7.mono B4.out.size))
          go_wp2
          go_ret
          exact ⟨rfl, B7.out⟩
        · have hn1 : ¬ n < 1 := by omega
          clear hn
          go_wp2_with fail
          refine (is_bad _ _ 2 _ (Sl.nil _) (by decide)).mono ?_
          rintro e w6 ⟨rfl, rfl⟩
          go_wp2_with fail
          refine (alive_any _).mono ?_
          rintro e w7 ⟨rfl, b7⟩
          have B7 := Lib.hid (B4.out.trans (b7.mono B4.out.size))
          go_wp2
          go_ret
          exact ⟨rfl, B7.out⟩
      · obtain ⟨m, rfl⟩ := Int.eq_ofNat_of_zero_le (show 0 ≤ n by omega)
        have m1 : 1 ≤ m := by omega
        have m7 : m ≤ 7 := by omega
        have i1 : ¬ (m : Int) < 1 := by omega
        have i7 : ¬ (7 : Int) < (m : Int) := by omega
        clear hn
        go_wp2_with fail
        refine (pparse_ok s m _ m1 m7 hs2).mono ?_
        rintro e w5 ⟨⟨o, hprs, hend⟩, b5⟩
        have HPrs := Lib.hid hprs
        have B5 := Lib.hid (B4.out.trans (b5.mono B4.out.size))
        clear hprs b5
        rcases o with _ | q
        · obtain rfl : e = .returned (.tuple #[.slice none 0 0, .int .i64 3]) := hend
          go_wp2_with fail
          refine (refparse_ok s m _ m1 m7 hs2).mono ?_
          rintro e w6 ⟨⟨o2, hprs2, hend2⟩, b6⟩
          obtain rfl := prs_one HPrs.out hprs2
          obtain rfl : e = .returned (.tuple #[.slice none 0 0, .bool false]) := hend2
          have B6 := Lib.hid (B5.out.trans (b6.mono B5.out.size))
          clear hprs2 b6
          go_wp2_with fail
          refine (is_bad _ _ 3 _ (Sl.nil _) (by decide)).mono ?_
          rintro e w7 ⟨rfl, rfl⟩
          go_wp2_with fail
          refine (alive_any _).mono ?_
          rintro e w8 ⟨rfl, b8⟩
          have B8 := Lib.hid (B6.out.trans (b8.mono B6.out.size))
          go_wp2
          go_ret
          exact ⟨rfl, B8.out⟩
        · obtain ⟨x, rfl, O1⟩ := hend
          have O1 := Lib.hid O1
          have hql : q.length ≤ 1000000 := by have := (HPrs.out.1 q rfl).2.1; omega
          go_wp2_with fail
          refine (refparse_ok s m _ m1 m7 hs2).mono ?_
          rintro e w6 ⟨⟨o2, hprs2, hend2⟩, b6⟩
          obtain rfl := prs_one HPrs.out hprs2
          obtain ⟨y, rfl, O2⟩ := hend2
          have O1 := Lib.hid (O1.out.below b6)
          have O2 := Lib.hid O2
          have B6 := Lib.hid (B5.out.trans (b6.mono B5.out.size))
          clear hprs2 b6
          go_wp2_with fail
          refine (is_ok _ _ q _ O1.out.sl O2.out.sl hql).mono ?_
          rintro e w7 ⟨rfl, n7, rfl⟩
          have B7 := Lib.hid (below_drewN' B6.out n7)
          go_wp2_with fail
          refine (alive_any _).mono ?_
          rintro e w8 ⟨rfl, b8⟩
          have B8 := Lib.hid (B7.out.trans (b8.mono B7.out.size))
          go_wp2
          go_ret
          exact ⟨rfl, B8.out⟩
  · have HB := Lib.hid (one_short_no (a := a) (c := ca) hsh)
    clear hsh
    go_enter Tryd.func3, Tryd.ntmps3
    go_wp2_with fail
    refine (short_any _ _ _ HS.out (by simp)).mono ?_
    rintro e w1 ⟨rfl, rfl⟩
    rw [HB.out]
    go_wp2_with fail
    refine (alive_any _).mono ?_
    rintro e w2 ⟨rfl, b2⟩
    have B2 := Lib.hid (B0.out.trans (b2.mono B0.out.size))
    clear b2
    go_wp2
    go_ret
    exact ⟨rfl, B2.out⟩
end Go.Proofs.YtcnkegcogepimaaDoor
