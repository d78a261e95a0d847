/- perm.Text, by its meaning. -/
import Derived.Test.YtcnkegcogepimaaDoorProg
import Derived.Test.YtcnkegcogepimaaDoorBase
import Derived.Test.YtcnkegcogepimaaDoorValid
import Derived.Test.YtcnkegcogepimaaDoorPair
import Derived.Test.YtcnkegcogepimaaDoorCycs2
import Derived.Test.YtcnkegcogepimaaDoorRefB
import Derived.Test.YtcnkegcogepimaaDoorTxtL
import Derived.Test.YtcnkegcogepimaaDoorBld
namespace Go.Proofs.YtcnkegcogepimaaDoor
open Go.RowKit

def strB (l : List UInt8) : ByteArray := ⟨l.toArray⟩
theorem size_strB (l : List UInt8) : (strB l).size = l.length := rfl
def txtE (p : List Int) : List UInt8 := if validL p = true then txt p else []
theorem dec_dig (n : Nat) (h : n < 7) : Lib.decDigits n = [dig (n : Int)] := by
  unfold Lib.decDigits
  rw [dif_pos (by omega)]
  rfl
theorem txtB_take_le {L : List (List Int)} (h : ∀ c, c ∈ L → c.length ≤ 7) (k : Nat) : (txtB (L.take k)).length ≤ 15 * k := by
  induction k with
  | zero => simp [txtB]
  | succ k ih =>
    by_cases hk : k < L.length
    · rw [List.take_succ_eq_append_getElem hk]
      unfold txtB at ih ⊢
      rw [List.flatMap_append, List.length_append]
      have := h _ (List.getElem_mem hk)
      simp [cyB, cyP_length] at ih ⊢
      omega
    · rw [List.take_of_length_le (by omega)]
      rw [List.take_of_length_le (by omega)] at ih
      omega
theorem txtB_take_succ (L : List (List Int)) (k : Nat) (hk : k < L.length) : txtB (L.take (k + 1)) = txtB (L.take k) ++ cyP 40 (L.getD k []) ++ [41] := by
  rw [List.take_succ_eq_append_getElem hk]
  unfold txtB
  rw [List.flatMap_append]
  simp [cyB, hk]
theorem cyP_take_succ (c : List Int) (j : Nat) (hj : j < c.length) : cyP 40 (c.take (j + 1)) = cyP 40 (c.take j) ++ [if j = 0 then 40 else 32, dig (c.getD j 0)] := by
  rw [List.take_succ_eq_append_getElem hj, cyP_snoc]
  have e : c[j] = c.getD j 0 := by simp [hj]
  rw [e]
  by_cases h0 : j = 0
  · subst h0; simp
  · have hne : c.take j ≠ [] := fun e => by
      have h2 : (c.take j).length = j := by rw [List.length_take]; omega
      rw [e] at h2
      exact h0 h2.symm
    rw [if_neg h0, if_neg hne]

set_option maxHeartbeats 2000000 in
theorem ptext_any (v : Value) (p : List Int) (w : World) (h : Sl w v p) (hp : p.length ≤ 1000000) :
    Calls Tryd.prog 10 #[v] w fun e w' => e = .returned (.tuple #[.string (strB (txtE p)), .int .i64 (errV p)]) ∧ Below w.heap.size w w' := by
  have H := Lib.hid h
  obtain ⟨a, ca, rfl, _⟩ := h
  rcases hv : validL p with _ | _
  · have HE := Lib.hid (show txtE p = [] by unfold txtE; rw [hv]; rfl)
    have HV := Lib.hid (show errV p = 1 by unfold errV; rw [hv]; rfl)
    have HVP := Lib.hid hv
    clear hv
    go_enter Tryd.func10, Tryd.ntmps10
    go_wp2_with fail
    refine (valid_any _ p _ H.out hp).mono ?_
    rintro e w1 ⟨rfl, b1⟩
    rw [HVP.out]
    go_wp2
    go_ret2
    exact ⟨by rw [HE.out, HV.out]; rfl, b1⟩
  · have HV := Lib.hid (show errV p = 0 by unfold errV; rw [hv]; rfl)
    have HVP := Lib.hid hv
    have K1 : (longL p).length ≤ 1000000 := Nat.le_trans (long_len7 hv) (by decide)
    have hlen7 : ∀ c, c ∈ longL p → c.length ≤ 7 := fun c hc => by
      obtain ⟨k, hk, e⟩ := cyc_mem (List.mem_filter.1 hc).1
      have := cyc_len hv hk
      rw [(st_spec hk).2.1] at this
      rw [e]
      exact this.2
    have hn7 := long_len7 hv
    have hpts := (long_pts hv).1
    have hp7 := ((validL_iff p).1 hv).2.1
    have HL7 := Lib.hid hlen7
    have HPts := Lib.hid hpts
    clear hv hlen7 hpts
    go_enter Tryd.func10, Tryd.ntmps10
    go_wp2_with fail
    refine (valid_any _ p _ H.out hp).mono ?_
    rintro e w1 ⟨rfl, b1⟩
    rw [HVP.out]
    have B1 := Lib.hid b1
    clear b1
    go_wp2_with fail
    refine (cycles_yes _ p _ (H.out.below B1.out) HVP.out).mono ?_
    rintro e w2 ⟨l, rfl, C, b2⟩
    have B2 := Lib.hid (B1.out.trans (b2.mono B1.out.size))
    have C := Lib.hid C.slls
    clear b2
    obtain ⟨al, cl, rfl, _⟩ := C.out
    by_cases h0 : (longL p).length = 0
    · have HE := Lib.hid (show txtE p = [40, 41] by unfold txtE; rw [if_pos HVP.out]; unfold txt; rw [if_pos (List.length_eq_zero_iff.1 h0)])
      have hz : ((longL p).length : Int) = 0 := by omega
      go_wp2
      go_ret2
      exact ⟨by rw [HE.out, HV.out]; rfl, B2.out⟩
    · have HE := Lib.hid (show txtE p = txtB (longL p) by unfold txtE; rw [if_pos HVP.out]; unfold txt; rw [if_neg (fun e => h0 (by rw [e]; rfl))])
      have hz : (((longL p).length : Int) == 0) = false := by rw [beq_eq_false_iff_ne]; omega
      go_wp2
      have hI := Lib.fresh_isBuilder 50 5 w2
      have hW : Below w2.heap.size w2 (w2.alloc (.cells #[.pointer none, .slice none 0 0] 50)) := (Below.refl _ w2).alloc (Nat.le_refl _) _
      obtain ⟨W, hWW⟩ : ∃ W, W = w2.alloc (.cells #[.pointer none, .slice none 0 0] 50) := ⟨_, rfl⟩
      rw [← hWW] at hI hW ⊢
      have HI := Lib.hid hI
      have HW := Lib.hid hW
      clear hI hW hWW hz h0
      go_loopw [21] (fun i wr => ∃ k : Nat, k ≤ (longL p).length ∧ i = .int .i64 k ∧ Hid (Lib.IsBuilder 50 5 w2.heap.size w2.heap.size (Lib.byteCells (txtB ((longL p).take k))) wr) ∧ Below w2.heap.size w2 wr) (fun i _ => (longL p).length - (intOf i).toNat)
      case atStart => exact ⟨0, Nat.zero_le _, rfl, HI, HW.out⟩
      case round =>
        clear HI HW
        obtain ⟨k, hk, rfl, hI, hb⟩ := hrel
        by_cases hlt : k < (longL p).length
        · obtain ⟨al2, cl2, e2, hL⟩ := C.out
          cases e2
          rcases hL with h | ⟨bl, ol, rfl, hc⟩
          · simp [h] at hlt
          obtain ⟨z, g1, s1⟩ := hc k hlt
          have hs1 := s1.below hb
          have g2 : wr.cell? ⟨bl, ol + k, none⟩ = some z := (hb.cell (p := ⟨bl, ol + k, none⟩) (World.block_lt_of_cell? w2 _ g1)).trans g1
          have hmem : (longL p).getD k [] ∈ longL p := by simp [hlt]
          have hc7 := HL7.out _ hmem
          have hcp : ∀ x, x ∈ (longL p).getD k [] → 0 ≤ x ∧ x < 7 := fun x hx => by
            have h := HPts.out x (List.mem_flatten.2 ⟨_, hmem, hx⟩)
            omega
          have hsucc := txtB_take_succ (longL p) k hlt
          have htl := txtB_take_le HL7.out k
          obtain ⟨za, zc, rfl, hzc⟩ := s1
          obtain ⟨c, hcc⟩ : ∃ c, c = (longL p).getD k [] := ⟨_, rfl⟩
          rw [← hcc] at g2 hzc hc7 hcp hsucc
          obtain ⟨P, hP⟩ : ∃ P, P = txtB ((longL p).take k) := ⟨_, rfl⟩
          rw [← hP] at hI hsucc htl
          have HZ := Lib.hid hzc
          have HCP := Lib.hid hcp
          have HSucc := Lib.hid hsucc
          have HB := Lib.hid hb
          obtain ⟨wo, hwo⟩ : ∃ W, W = wr := ⟨_, rfl⟩
          subst hwo
          clear hc g1 hs1 hmem hcc hP hzc hcp hsucc hb
          go_wp2
          go_loopw [8, 27] (fun sp i wr => ∃ j : Nat, j ≤ c.length ∧ i = .int .i64 j ∧ sp = .string (strB [if j = 0 then 40 else 32]) ∧ Hid (Lib.IsBuilder 50 5 w2.heap.size w2.heap.size (Lib.byteCells (P ++ cyP 40 (c.take j))) wr) ∧ Below w2.heap.size w2 wr) (fun _ i _ => c.length - (intOf i).toNat)
          case atStart => exact ⟨0, Nat.zero_le _, rfl, rfl, by simpa [cyP] using hI, HB.out⟩
          case round =>
            clear hI HB
            obtain ⟨j, hj, rfl, rfl, hI, hb⟩ := hrel
            by_cases hlt2 : j < c.length
            · rcases HZ.out with h | ⟨b2, o2, rfl, hc2⟩
              · simp [h] at hlt2
              have g3 := hc2 j hlt2
              have hx := HCP.out (c.getD j 0) (by simp [hlt2])
              have hstep := cyP_take_succ c j hlt2
              obtain ⟨x, hxx⟩ : ∃ x, x = c.getD j 0 := ⟨_, rfl⟩
              rw [← hxx] at g3 hx hstep
              obtain ⟨n, rfl⟩ := Int.eq_ofNat_of_zero_le hx.1
              have hn7 : n < 7 := by omega
              have g4 : wr.cell? ⟨b2, o2 + j, none⟩ = some (.int .i64 n) := (hb.cell (p := ⟨b2, o2 + j, none⟩) (World.block_lt_of_cell? w2 _ g3)).trans g3
              have hl1 : (Lib.byteCells (P ++ cyP 40 (c.take j))).length ≤ 200 := by
                rw [Lib.byteCells_length, List.length_append, cyP_length, List.length_take]; omega
              obtain ⟨T, hT⟩ : ∃ T, T = P ++ cyP 40 (c.take j) := ⟨_, rfl⟩
              rw [← hT] at hI hl1
              have hT2 : P ++ cyP 40 (c.take (j + 1)) = T ++ [if j = 0 then 40 else 32] ++ [dig n] := by rw [hstep, hT]; simp
              obtain ⟨sp, hsp⟩ : ∃ sp : UInt8, sp = if j = 0 then 40 else 32 := ⟨_, rfl⟩
              rw [← hsp] at hT2 ⊢
              have hs1 : w2.heap.size ≤ wr.heap.size := hb.size
              have HT2 := Lib.hid hT2
              have HBB := Lib.hid hb
              clear hc2 g3 hxx hx hstep hT hT2 hsp hb
              go_wp2_with fail
              refine (Tryd.Builder_WriteString w2.heap.size w2.heap.size _ (strB [sp]) _ hI.out (by rw [size_strB]; simp; omega) hs1).mono ?_
              rintro e w3 ⟨rfl, hA, b3⟩
              have hI3 : Hid (Lib.IsBuilder 50 5 w2.heap.size w2.heap.size (Lib.byteCells (T ++ [sp])) w3) := Lib.hid (.inr (by
                have e : Lib.byteCells (T ++ [sp]) = Lib.byteCells T ++ Lib.strCells (strB [sp]) := by simp [Lib.byteCells, Lib.strCells, strB]
                rw [e]; exact hA))
              have HB3 := Lib.hid (HBB.out.trans b3)
              have hs3 : w2.heap.size ≤ w3.heap.size := HB3.out.size
              clear hA b3
              go_wp2_with fail
              refine (Tryd.strconv_Itoa_small n (by omega) w3).mono ?_
              rintro e w4 ⟨rfl, rfl⟩
              rw [dec_dig n hn7]
              go_wp2_with fail
              refine (Tryd.Builder_WriteString w2.heap.size w2.heap.size _ (strB [dig n]) _ hI3.out (by rw [size_strB, Lib.byteCells_length, List.length_append]; rw [Lib.byteCells_length] at hl1; simp; omega) hs3).mono ?_
              rintro e w5 ⟨rfl, hA, b5⟩
              have hI5 : Hid (Lib.IsBuilder 50 5 w2.heap.size w2.heap.size (Lib.byteCells (P ++ cyP 40 (c.take (j + 1)))) w5) := Lib.hid (.inr (by
                have e : Lib.byteCells (P ++ cyP 40 (c.take (j + 1))) = Lib.byteCells (T ++ [sp]) ++ Lib.strCells (strB [dig n]) := by rw [HT2.out]; simp [Lib.byteCells, Lib.strCells, strB]
                rw [e]; exact hA))
              have HB5 := Lib.hid (HB3.out.trans b5)
              clear hA b5
              go_wp2
              go_roundw
              case rel => exact ⟨j + 1, by omega, by go_num, rfl, hI5, HB5.out⟩
              case measure => simp [intOf]; omega
            · have hje : j = c.length := by omega
              have hlt3 : c.length ≤ j := by omega
              rw [hje, List.take_of_length_le (Nat.le_refl _)] at hI
              have hs1 : w2.heap.size ≤ wr.heap.size := hb.size
              have hl1 : (Lib.byteCells (P ++ cyP 40 c)).length ≤ 200 := by
                rw [Lib.byteCells_length, List.length_append, cyP_length]; omega
              have HBB := Lib.hid hb
              clear hje hb
              go_wp2_with (go_at_call 25; refine (Tryd.Builder_WriteString w2.heap.size w2.heap.size _ (strB [41]) _ hI.out (by rw [size_strB]; simp; omega) hs1).mono ?_; rintro e w3 ⟨rfl, hA, b3⟩)
              have hI3 : Hid (Lib.IsBuilder 50 5 w2.heap.size w2.heap.size (Lib.byteCells (txtB ((longL p).take (k + 1)))) w3) := Lib.hid (.inr (by
                have e : Lib.byteCells (txtB ((longL p).take (k + 1))) = Lib.byteCells (P ++ cyP 40 c) ++ Lib.strCells (strB [41]) := by rw [HSucc.out]; simp [Lib.byteCells, Lib.strCells, strB]
                rw [e]; exact hA))
              have HB3 := Lib.hid (HBB.out.trans b3)
              clear hA b3
              go_roundw
              case rel => exact ⟨k + 1, by omega, by go_num, hI3, HB3.out⟩
              case measure => simp [intOf]; omega
        · have hke : k = (longL p).length := by omega
          have hlt3 : (longL p).length ≤ k := by omega
          rw [hke, List.take_of_length_le (Nat.le_refl _)] at hI
          have hs1 : w2.heap.size ≤ wr.heap.size := hb.size
          have HBB := Lib.hid hb
          clear hke hb
          go_wp2_with fail
          refine (Tryd.Builder_String_any w2.heap.size w2.heap.size _ wr hI.out hs1).mono ?_
          rintro e w3 ⟨rfl, b3⟩
          have HB3 := Lib.hid (HBB.out.trans b3)
          clear b3
          go_wp2
          go_ret2
          refine ⟨by rw [HE.out, HV.out]; rfl, B2.out.trans (HB3.out.mono B2.out.size)⟩
end Go.Proofs.YtcnkegcogepimaaDoor
