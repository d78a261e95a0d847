/- The reference's Parse, by its meaning. -/
import Derived.Test.YtcnkegcogepimaaDoorProg
import Derived.Test.YtcnkegcogepimaaDoorBase
import Derived.Test.YtcnkegcogepimaaDoorRef
import Derived.Test.YtcnkegcogepimaaDoorParse
import Derived.StillTailTactics
namespace Go.Proofs.YtcnkegcogepimaaDoor
open Go.RowKit

def rpEnd (B : Nat) (w' : World) (e : Ending) : Option (List Int) → Prop
  | none => e = .returned (.tuple #[.slice none 0 0, .bool false])
  | some q => ∃ v, e = .returned (.tuple #[v, .bool true]) ∧ Ow B w' v q

theorem get_strB (s : List UInt8) (k : Nat) (h : k < (strB s).size) : (strB s)[k]'h = s[k]'h := by
  rfl

theorem tmod_next (j l q : Nat) (hj : j < l) (hl : l ≤ 1000000) (h : ((j : Int) + 1) % (l : Int) = (q : Int)) : (IntKind.i64.wrap ((j : Int) + 1)).tmod (l : Int) = (q : Int) := by
  have e : IntKind.i64.wrap ((j : Int) + 1) = (j : Int) + 1 := by rw [IntKind.wrap_i64]; omega
  rw [e, Int.tmod_eq_emod_of_nonneg (by omega)]
  exact h

set_option maxRecDepth 100000 in
set_option maxHeartbeats 4000000 in
theorem refparse_ok (s : List UInt8) (m : Nat) (w : World) (h1 : 1 ≤ m) (h7 : m ≤ 7) (hs : s.length ≤ 2000) :
    Calls Tryd.prog 14 #[.string (strB s), .int .i64 m] w fun e w' => (∃ o, prs m s o ∧ rpEnd w.heap.size w' e o) ∧ Below w.heap.size w w' := by
  obtain ⟨i0, hi, hz0, hz1, hz2⟩ := info_parts infoInt2
  have hsz : (strB s).size = s.length := rfl
  by_cases hlong : 28 < s.length
  · have HP : Hid (prs m s none) := Lib.hid ⟨fun q hq => (by cases hq), fun _ q hq hl ht => by
      have := (txt_len hq).2
      rw [ht] at this
      omega⟩
    go_enter Tryd.func14, Tryd.ntmps14
    go_wp2
    go_ret2
    exact ⟨⟨_, HP.out, rfl⟩, Below.refl _ _⟩
  · go_enter Tryd.func14, Tryd.ntmps14
    go_wp2_with fail
    refine (refid_blk m _ (by omega)).mono ?_
    rintro e w1 ⟨rfl, hB, b1⟩
    have HB := Lib.hid hB
    have hw1 : w.heap.size < w1.heap.size := hB.lt
    clear hB
    go_wp2
    have hst0 : ∃ P : List Int, rGo m (s.drop 0) P [] = rGo m s (idL m) [] ∧ P.length = m ∧ Blk w1 w.heap.size 3 (ints P) := ⟨idL m, by rw [List.drop_zero], length_idL m, HB.out⟩
    have HS0 := Lib.hid hst0
    have HB1 := Lib.hid b1
    clear hst0 HB b1
    go_loopw [7, 8] (fun cv iv wr => ∃ k : Nat, ∃ acc : List Int, k ≤ s.length ∧ iv = .int .i64 k ∧ Hid (∃ P : List Int, rGo m (s.drop k) P acc = rGo m s (idL m) [] ∧ P.length = m ∧ Blk wr w.heap.size 3 (ints P)) ∧ Hid (Ow (w.heap.size + 1) wr cv acc) ∧ acc.length ≤ k ∧ Hid (∀ x, x ∈ acc → 0 ≤ x ∧ x < (m : Int)) ∧ Below w.heap.size w wr) (fun _ iv _ => s.length - (intOf iv).toNat)
    case atStart => exact ⟨0, [], Nat.zero_le _, rfl, HS0, Lib.hid (Ow.nil _ _), Nat.zero_le _, Lib.hid (fun x hx => by simp at hx), HB1.out⟩
    case round =>
      clear HS0 HB1
      obtain ⟨k, acc, hk, rfl, hst, hO, hal, hr, hb⟩ := hrel
      obtain ⟨P, hp1, hp2, hp3⟩ := hst.out
      have hwr := hb.size
      have hglt : w.heap.size < wr.heap.size := hp3.lt
      have HP3 := Lib.hid hp3
      by_cases hlt : k < s.length
      · have hd : s.drop k = s[k] :: s.drop (k + 1) := List.drop_eq_getElem_cons hlt
        obtain ⟨b, hbb⟩ : ∃ b : UInt8, s[k] = b := ⟨_, rfl⟩
        rw [hd, hbb] at hp1
        obtain ⟨N, hN⟩ : ∃ N : Nat, b.toNat = N := ⟨_, rfl⟩
        have hkk : k < (strB s).size := by rw [hsz]; exact hlt
        have e0 : ((strB s)[k]'hkk).toNat = N := by rw [get_strB s k hkk]; exact (congrArg UInt8.toNat hbb).trans hN
        have h255 : N < 256 := by rw [← hN]; exact b.toNat_lt
        have h40 : b = 40 ↔ N = 40 := by rw [← hN]; exact (UInt8.toNat_inj (a := b) (b := 40)).symm
        have h41 : b = 41 ↔ N = 41 := by rw [← hN]; exact (UInt8.toNat_inj (a := b) (b := 41)).symm
        rw [rGo, hN] at hp1
        have H40 := Lib.hid h40
        have H41 := Lib.hid h41
        have HP1 := Lib.hid hp1
        clear hp1 hp3 hst hd hN h40 h41 hbb
        by_cases hdig : 48 ≤ N ∧ N ≤ 57
        · obtain ⟨x, rfl⟩ : ∃ x, N = 48 + x := ⟨N - 48, by omega⟩
          have hx9 : x ≤ 9 := by omega
          have h2 := HP1.out
          rw [if_pos hdig] at h2
          have hx : ((48 + x : Nat) : Int) - 48 = (x : Int) := by omega
          have hx48 : (48 : Int) + (x : Int) - 48 = (x : Int) := by omega
          rw [hx] at h2
          have d40 : ((48 : Int) + (x : Int) == 40) = false := by rw [beq_eq_false_iff_ne]; omega
          have d41 : ((48 : Int) + (x : Int) == 41) = false := by rw [beq_eq_false_iff_ne]; omega
          have HP2 := Lib.hid h2
          clear h2 HP1 hdig hx
          by_cases hbig : m ≤ x
          · have HP : Hid (prs m s none) := Lib.hid ⟨fun q hq => (by cases hq), fun _ q hq hl ht => by
              have h3 := rGo_txt hq
              have h4 := HP2.out
              rw [if_pos (by omega)] at h4
              rw [ht, hl, ← h4] at h3
              cases h3⟩
            go_wp2
            go_ret2
            exact ⟨⟨_, HP.out, rfl⟩, hb⟩
          · have h4 := HP2.out
            rw [if_neg (by omega)] at h4
            have HP4 := Lib.hid h4
            obtain ⟨ua, uc, rfl, _⟩ := hO.out.sl
            have hO3 : (wr.alloc (.cells #[.int .i64 x] 3)).ownsRow (w.heap.size + 1) 3 1 (.slice ua acc.length uc) acc.length (acc.map (Value.int .i64)) :=
              hO.out.below ((Below.refl _ wr).alloc (Nat.le_refl _) (.cells #[.int .i64 (x : Int)] 3))
            have HO3 := Lib.hid hO3
            have hrow : ∀ b, (Value.slice ua acc.length uc).ownBlock = some b → w.heap.size + 1 ≤ b := fun b h => (hO.out.lt b h).1
            have HRow := Lib.hid hrow
            clear h4 HP2 hO3 hrow
            go_wp2_with (first | (at_builtin; refine wpList_append_own _ rfl _ _ 22 rfl (w.heap.size + 1) 3 i0 (.int .i64 0) 1 8 Tryd.underlying22 hi hz0 hz1 hz2 rfl (by decide) _ _ _ rfl HO3.out ⟨wr.heap.size, 0, none⟩ 1 1 [.int .i64 (x : Int)] rfl rfl (cell_one_new wr (.int .i64 (x : Int)) 3) (by simp [Value.oneCell']) (by unfold maxLen; omega) (by omega) (by simp; omega) ?_; intro v' w2 hown' hgrow _; obtain ⟨g', cap', rfl⟩ := ownsRow_succ hown'))
            have T2 : Turns (fun _ => False) w w2 := ((Turns.of_below hb).trans (Turns.alloc _ _)).grow hgrow (fun b e => by have := HRow.out b e; omega)
            have hP2 : Blk w2 w.heap.size 3 (ints P) := (hgrow.block _ (by simp; omega) (fun e => by have := HRow.out _ e.symm; omega)).trans (HP3.out.alloc _)
            have Ov := Ow.push hown'
            have hr2 : ∀ y, y ∈ acc ++ [(x : Int)] → 0 ≤ y ∧ y < (m : Int) := fun y hy => by
              rcases List.mem_append.1 hy with h | h
              · exact hr.out y h
              · simp at h; omega
            have hbw : Below w.heap.size w w2 := ⟨T2.os, T2.tape, T2.output, T2.size, fun k hk => T2.block k hk (fun h => h)⟩
            have HOv := Lib.hid Ov
            have HR2 := Lib.hid hr2
            have HPB := Lib.hid hP2
            have HBW := Lib.hid hbw
            clear T2 hP2 Ov hr2 hbw hown' hgrow
            go_wp2
            go_roundw
            case rel => exact ⟨k + 1, acc ++ [(x : Int)], by omega, by go_num, Lib.hid ⟨P, HP4.out, hp2, HPB.out⟩, HOv, by simp; omega, HR2, HBW.out⟩
            case measure => simp [intOf]; omega
        · by_cases n40 : N = 40
          · subst n40
            have h2 := HP1.out
            rw [if_neg (by omega), if_pos (H40.out.2 rfl)] at h2
            have HP2 := Lib.hid h2
            clear h2 HP1
            go_wp2
            go_roundw
            case rel => exact ⟨k + 1, [], by omega, by go_num, Lib.hid ⟨P, HP2.out, hp2, HP3.out⟩, Lib.hid (Ow.nil _ _), Nat.zero_le _, Lib.hid (fun x hx => by simp at hx), hb⟩
            case measure => simp [intOf]; omega
          · have h2 := HP1.out
            rw [if_neg hdig, if_neg (fun h => n40 (H40.out.1 h))] at h2
            by_cases n41 : N = 41
            · subst n41
              rw [if_pos (H41.out.2 rfl)] at h2
              have HP2 := Lib.hid h2
              obtain ⟨ua, uc, rfl, _⟩ := hO.out.sl
              obtain ⟨wo, hwo⟩ : ∃ W, W = wr := ⟨_, rfl⟩
              subst hwo
              have HO := Lib.hid hO.out
              clear h2 HP1 hdig n40 hO
              go_wp2
              go_loopw [10] (fun i wr => ∃ j : Nat, j ≤ acc.length ∧ i = .int .i64 j ∧ Hid (Blk wr w.heap.size 3 (ints (fl P acc (rot acc) j))) ∧ Hid (Turns (fun b => b = w.heap.size) wo wr)) (fun i _ => acc.length - (intOf i).toNat)
              case atStart => exact ⟨0, Nat.zero_le _, rfl, HP3, Lib.hid (Turns.refl _ _)⟩
              case round =>
                obtain ⟨j, hj, rfl, hB, ht⟩ := hrel
                by_cases hltj : j < acc.length
                · obtain ⟨b2, o2, c2, e2, ⟨hb1, hb2⟩, hcell⟩ := Ow.form2 (HO.out.turns ht.out (fun r e hr => by have := (HO.out.lt r e).1; omega)) (by omega)
                  cases e2
                  have hm : (j + 1) % acc.length < acc.length := Nat.mod_lt _ (by omega)
                  have g1 := hcell j hltj
                  have g2 := hcell ((j + 1) % acc.length) hm
                  have hx := hr.out (acc.getD j 0) (by simp [hltj])
                  have hrot := rot_get hltj
                  have hfl : fl P acc (rot acc) (j + 1) = (fl P acc (rot acc) j).set (acc.getD j 0).toNat ((rot acc).getD j 0) := rfl
                  rw [hrot] at hfl
                  obtain ⟨x, hxx⟩ : ∃ x, x = acc.getD j 0 := ⟨_, rfl⟩
                  obtain ⟨y, hyy⟩ : ∃ y, y = acc.getD ((j + 1) % acc.length) 0 := ⟨_, rfl⟩
                  rw [← hxx] at g1 hx hfl
                  rw [← hyy] at g2 hfl
                  obtain ⟨n, rfl⟩ := Int.eq_ofNat_of_zero_le hx.1
                  have hn : n < m := by omega
                  obtain ⟨q, hqq⟩ : ∃ q, q = (j + 1) % acc.length := ⟨_, rfl⟩
                  rw [← hqq] at g2 hm
                  have hrem : ((j : Int) + 1) % (acc.length : Int) = (q : Int) := by rw [hqq]; simp
                  have hlen := length_fl P acc (rot acc) j
                  have hcur : ∃ u, wr.cell? ⟨w.heap.size, n, none⟩ = some u := ⟨_, by rw [hB.out.cell n]; exact ints_get _ _ (by omega)⟩
                  obtain ⟨u, hcur⟩ := hcur
                  have hf := hB.out.free n
                  have hset : Blk (wr.drew.setCell ⟨w.heap.size, n, none⟩ (.int .i64 y)) w.heap.size 3 (ints (fl P acc (rot acc) (j + 1))) := by
                    have := (show Blk wr.drew w.heap.size 3 _ from hB.out).set n (.int .i64 y)
                    rw [ints_set] at this
                    rw [hfl]
                    exact this
                  have ht3 : Turns (fun b => b = w.heap.size) wo wr.drew := ht.out.trans (Turns.of_below (below_drewN' (Below.refl _ wr) 1))
                  have HT3 := Lib.hid ht3
                  have hcur3 : wr.drew.cell? ⟨w.heap.size, n, none⟩ = some u := hcur
                  have hf3 : wr.drew.frozen? ⟨w.heap.size, n, none⟩ = false := hf
                  have HSet := Lib.hid hset
                  clear hset ht3 hfl hrot hcell hqq hxx hyy hlen
                  go_wp2
                  have hacc : acc ≠ [] := fun e => by rw [e] at hltj; simp at hltj
                  have htm := tmod_next j acc.length q (by omega) (by omega) hrem
                  go_still_tail 14, (by kernel_rfl)
                  clear htm hacc
                  change wpList _ _ _ _ _ wr.drew
                  generalize wr.drew = W3 at *
                  go_wp2
                  go_roundw
                  case rel => exact ⟨j + 1, by omega, by go_num, HSet, Lib.hid (HT3.out.setCell _ _ _ rfl)⟩
                  case measure => simp [intOf]; omega
                · have hje : j = acc.length := by omega
                  have hlt3 : acc.length ≤ j := by omega
                  have HE : Hid (Blk wr w.heap.size 3 (ints (ent P acc))) := Lib.hid (by have := hB.out; rw [hje] at this; exact this)
                  have HOw : Hid (Ow (w.heap.size + 1) wr (.slice ua acc.length uc) acc) := Lib.hid (HO.out.turns ht.out (fun r e hr => by have := (HO.out.lt r e).1; omega))
                  have HBW := Lib.hid (below_turns hb ht.out (fun b hb2 h => by omega) (Nat.le_refl _))
                  clear hje hB
                  go_wp2
                  go_roundw
                  case rel => exact ⟨k + 1, acc, by omega, by go_num, Lib.hid ⟨ent P acc, HP2.out, by rw [length_ent]; exact hp2, HE.out⟩, HOw, by omega, hr, HBW.out⟩
                  case measure => simp [intOf]; omega
            · rw [if_neg (fun h => n41 (H41.out.1 h))] at h2
              have HP2 := Lib.hid h2
              have d40 : ((N : Int) == 40) = false := by rw [beq_eq_false_iff_ne]; omega
              have d41 : ((N : Int) == 41) = false := by rw [beq_eq_false_iff_ne]; omega
              clear h2 HP1
              by_cases h48 : N < 48
              · clear hdig n40 n41
                go_wp2
                go_roundw
                case rel => exact ⟨k + 1, acc, by omega, by go_num, Lib.hid ⟨P, HP2.out, hp2, HP3.out⟩, hO, by omega, hr, hb⟩
                case measure => simp [intOf]; omega
              · have h57 : 57 < N := by omega
                clear hdig n40 n41
                go_wp2
                go_roundw
                case rel => exact ⟨k + 1, acc, by omega, by go_num, Lib.hid ⟨P, HP2.out, hp2, HP3.out⟩, hO, by omega, hr, hb⟩
                case measure => simp [intOf]; omega
      · have hke : k = s.length := by omega
        have hlt3 : s.length ≤ k := by omega
        have hfin : rGo m s (idL m) [] = some P := by
          rw [← hp1, hke, List.drop_of_length_le (Nat.le_refl _), rGo]
        have HF := Lib.hid hfin
        have hO : Ow w.heap.size wr (.slice (some ⟨w.heap.size, 0, none⟩) m m) P := Ow.of_blk HP3.out (Nat.le_refl _) (by omega) m hp2.symm
        have HO2 := Lib.hid hO
        have HP2 := Lib.hid hp2
        have hPl : P.length ≤ 1000000 := by omega
        have hq1 : ∀ q, validL q = true → q.length = m → txt q = s → P = q := fun q hq hl ht => by
          have h3 := rGo_txt hq
          rw [ht, hl, HF.out] at h3
          cases h3
          rfl
        have HQ := Lib.hid hq1
        have htl := toList_strB s
        have htl2 := toList_strB (txt P)
        clear hke hfin hO hp1 hp2 hp3 hst hq1
        rcases hv : validL P with _ | _
        · have HV := Lib.hid hv
          have HP : Hid (prs m s none) := Lib.hid ⟨fun q hq => (by cases hq), fun _ q hq hl ht => by
            have := HQ.out q hq hl ht
            subst this
            rw [hq] at hv
            cases hv⟩
          clear hv
          go_wp2_with fail
          refine (refvalid_any _ P _ HO2.out.sl hPl).mono ?_
          rintro e w3 ⟨rfl, n3, rfl⟩
          rw [HV.out]
          have HB3 := Lib.hid (below_drewN' hb n3)
          go_wp2
          go_ret2
          exact ⟨⟨_, HP.out, rfl⟩, HB3.out⟩
        · have HV := Lib.hid hv
          by_cases hts : txt P = s
          · have HP : Hid (prs m s (some P)) := Lib.hid ⟨fun q hq => by
              cases hq
              exact ⟨hv, HP2.out, hts⟩, fun h => by cases h⟩
            have hbe : (txt P == s) = true := by rw [beq_iff_eq]; exact hts
            clear hv hts
            go_wp2_with fail
            refine (refvalid_any _ P _ HO2.out.sl hPl).mono ?_
            rintro e w3 ⟨rfl, n3, rfl⟩
            rw [HV.out]
            have HB3 := Lib.hid (below_drewN' hb n3)
            have HO3 := Lib.hid (HO2.out.below (below_drewN' (Below.refl _ wr) n3))
            go_wp2_with fail
            refine (reftext_yes _ P _ HO3.out.sl HV.out).mono ?_
            rintro e w4 ⟨rfl, b4⟩
            have HB4 := Lib.hid (HB3.out.trans (b4.mono HB3.out.size))
            have HO4 := Lib.hid (HO3.out.below b4)
            clear b4
            go_wp2
            go_ret2
            exact ⟨⟨_, HP.out, _, rfl, HO4.out⟩, HB4.out⟩
          · have HP : Hid (prs m s none) := Lib.hid ⟨fun q hq => (by cases hq), fun _ q hq hl ht => by
              have := HQ.out q hq hl ht
              subst this
              exact hts ht⟩
            have hbe : (txt P == s) = false := by rw [beq_eq_false_iff_ne]; exact hts
            clear hv hts
            go_wp2_with fail
            refine (refvalid_any _ P _ HO2.out.sl hPl).mono ?_
            rintro e w3 ⟨rfl, n3, rfl⟩
            rw [HV.out]
            have HB3 := Lib.hid (below_drewN' hb n3)
            have HO3 := Lib.hid (HO2.out.below (below_drewN' (Below.refl _ wr) n3))
            go_wp2_with fail
            refine (reftext_yes _ P _ HO3.out.sl HV.out).mono ?_
            rintro e w4 ⟨rfl, b4⟩
            have HB4 := Lib.hid (HB3.out.trans (b4.mono HB3.out.size))
            clear b4
            go_wp2
            go_ret2
            exact ⟨⟨_, HP.out, rfl⟩, HB4.out⟩
end Go.Proofs.YtcnkegcogepimaaDoor
