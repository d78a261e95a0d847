/- The reference's Text, by its meaning. -/
import Derived.Test.YtcnkegcogepimaaDoorProg
import Derived.Test.YtcnkegcogepimaaDoorBase
import Derived.Test.YtcnkegcogepimaaDoorRefC
import Derived.Test.YtcnkegcogepimaaDoorRefB
import Derived.Test.YtcnkegcogepimaaDoorText
import Derived.Laws.IdiomStrings
namespace Go.Proofs.YtcnkegcogepimaaDoor
open Go.RowKit

theorem strB_append (a b : List UInt8) : strB a ++ strB b = strB (a ++ b) := by
  apply ByteArray.ext
  simp [strB]
theorem strB_inj {a b : List UInt8} : strB a = strB b ↔ a = b := by
  constructor
  · intro h
    have := congrArg (fun s : ByteArray => s.data.toList) h
    simpa [strB] using this
  · intro h; rw [h]

theorem conv_dig (wr : World) (n : Nat) (h : n < 7) : (convert 46 9 (.slice (some ⟨wr.heap.size, 0, none⟩) 1 1)).run Tryd.prog (wr.alloc (.cells #[.int .u8 (48 + (n : Int))] 5)) = .ok (.string (strB [dig n])) (wr.alloc (.cells #[.int .u8 (48 + (n : Int))] 5)) := by
  refine run_convert_bytes_back _ 46 9 5 ⟨wr.heap.size, 0, none⟩ 1 [dig n] Tryd.underlying46 Tryd.underlying5 Tryd.underlying9 (fun j hj => ?_)
  have hj0 : j = 0 := by simp at hj; exact hj
  subst hj0
  rw [Addr.add_lit, (Blk.new wr 5 #[.int .u8 (48 + (n : Int))]).cell 0]
  have := dig_nat (x := (n : Int)) (by omega) (by omega)
  simp [this]

set_option maxRecDepth 100000 in
set_option maxHeartbeats 2000000 in
theorem reftext_yes (v : Value) (p : List Int) (w : World) (h : Sl w v p) (hv : validL p = true) :
    Calls Tryd.prog 8 #[v] w fun e w' => e = .returned (.string (strB (txt p))) ∧ Below w.heap.size w w' := by
  have H := Lib.hid h
  obtain ⟨a, ca, rfl, _⟩ := h
  have HVP := Lib.hid hv
  have hlen7 : ∀ c, c ∈ longL p → c.length ≤ 7 := fun c hc => by
    obtain ⟨k, hk, e⟩ := cyc_mem (List.mem_filter.1 hc).1
    have := cyc_len hv hk
    rw [(st_spec hk).2.1] at this
    rw [e]
    exact this.2
  have hn7 := long_len7 hv
  have hpts := (long_pts hv).1
  have hp7 := ((validL_iff p).1 hv).2.1
  have HL7 := Lib.hid hlen7
  have HPts := Lib.hid hpts
  clear hv hlen7 hpts
  go_enter Tryd.func8, Tryd.ntmps8
  go_wp2_with fail
  refine (refcyc_any _ p _ H.out HVP.out).mono ?_
  rintro e w2 ⟨l, rfl, C, b2⟩
  have B2 := Lib.hid b2
  have C := Lib.hid C.slls
  clear b2
  obtain ⟨al, cl, rfl, _⟩ := C.out
  by_cases h0 : (longL p).length = 0
  · have HE := Lib.hid (show txt p = [40, 41] by unfold txt; rw [if_pos (List.length_eq_zero_iff.1 h0)])
    have hz : ((longL p).length : Int) = 0 := by omega
    go_wp2
    go_ret
    exact ⟨by rw [HE.out]; rfl, B2.out⟩
  · have HE := Lib.hid (show txt p = txtB (longL p) by unfold txt; rw [if_neg (fun e => h0 (by rw [e]; rfl))])
    have hz : (((longL p).length : Int) == 0) = false := by rw [beq_eq_false_iff_ne]; omega
    go_wp2
    clear hz h0
    go_loopw [4, 5] (fun s i wr => ∃ k : Nat, k ≤ (longL p).length ∧ i = .int .i64 k ∧ s = .string (strB (txtB ((longL p).take k))) ∧ Below w2.heap.size w2 wr) (fun _ i _ => (longL p).length - (intOf i).toNat)
    case atStart => exact ⟨0, Nat.zero_le _, rfl, rfl, Below.refl _ _⟩
    case round =>
      obtain ⟨k, hk, rfl, rfl, hb⟩ := hrel
      by_cases hlt : k < (longL p).length
      · obtain ⟨al2, cl2, e2, hL⟩ := C.out
        cases e2
        rcases hL with h | ⟨bl, ol, rfl, hc⟩
        · simp [h] at hlt
        obtain ⟨z, g1, s1⟩ := hc k hlt
        have hblw : bl < w2.heap.size := World.block_lt_of_cell? w2 _ g1
        have hmem : (longL p).getD k [] ∈ longL p := by simp [hlt]
        have hc7 := HL7.out _ hmem
        have hcp : ∀ x, x ∈ (longL p).getD k [] → 0 ≤ x ∧ x < 7 := fun x hx => by
          have h := HPts.out x (List.mem_flatten.2 ⟨_, hmem, hx⟩)
          omega
        have hsucc := txtB_take_succ (longL p) k hlt
        have htl := txtB_take_le HL7.out k
        obtain ⟨za, zc, rfl, hzc⟩ := s1
        obtain ⟨c, hcc⟩ : ∃ c, c = (longL p).getD k [] := ⟨_, rfl⟩
        rw [← hcc] at g1 hzc hc7 hcp hsucc
        obtain ⟨P, hP⟩ : ∃ P, P = txtB ((longL p).take k) := ⟨_, rfl⟩
        rw [← hP] at hsucc htl ⊢
        have HZ := Lib.hid hzc
        have HCP := Lib.hid hcp
        have HSucc := Lib.hid hsucc
        have HB := Lib.hid hb
        have HG := Lib.hid g1
        obtain ⟨wo, hwo⟩ : ∃ W, W = wr := ⟨_, rfl⟩
        subst hwo
        clear hc g1 hmem hcc hP hzc hcp hsucc hb
        go_wp2
        go_loopw [4, 6] (fun s i wr => ∃ j : Nat, j ≤ c.length ∧ i = .int .i64 j ∧ s = .string (strB (P ++ cyP 40 (c.take j))) ∧ Below w2.heap.size w2 wr) (fun _ i _ => c.length - (intOf i).toNat)
        case atStart => exact ⟨0, Nat.zero_le _, rfl, by simp [cyP], HB.out⟩
        case round =>
          obtain ⟨j, hj, rfl, rfl, hb⟩ := hrel
          have g2 : wr.cell? ⟨bl, ol + k, none⟩ = some (.slice za c.length zc) := (hb.cell (p := ⟨bl, ol + k, none⟩) hblw).trans HG.out
          by_cases hlt2 : j < c.length
          · rcases HZ.out with h | ⟨b2, o2, rfl, hc2⟩
            · simp [h] at hlt2
            have g3 := hc2 j hlt2
            have hx := HCP.out (c.getD j 0) (by simp [hlt2])
            have hstep := cyP_take_succ c j hlt2
            obtain ⟨x, hxx⟩ : ∃ x, x = c.getD j 0 := ⟨_, rfl⟩
            rw [← hxx] at g3 hx hstep
            obtain ⟨n, rfl⟩ := Int.eq_ofNat_of_zero_le hx.1
            have hn7 : n < 7 := by omega
            have g4 : wr.cell? ⟨b2, o2 + j, none⟩ = some (.int .i64 n) := (hb.cell (p := ⟨b2, o2 + j, none⟩) (World.block_lt_of_cell? w2 _ g3)).trans g3
            obtain ⟨T, hT⟩ : ∃ T, T = P ++ cyP 40 (c.take j) := ⟨_, rfl⟩
            have hT2 : P ++ cyP 40 (c.take (j + 1)) = T ++ [if j = 0 then 40 else 32] ++ [dig n] := by rw [hstep, hT]; simp
            have hTl : T.length ≤ 200 := by rw [hT, List.length_append, cyP_length, List.length_take]; omega
            rw [← hT]
            have HB2 := Lib.hid hb
            have HT2 := Lib.hid hT2
            clear hc2 g3 hxx hx hstep hT hT2 hb
            have hcv := conv_dig wr n hn7
            have hz1 : ¬ 9223372036854775807 < (strB T).size + 1 := by rw [size_strB]; omega
            have hz2 : ¬ 9223372036854775807 < (strB T).size + 1 + (strB [dig n]).size := by rw [size_strB, size_strB]; simp; omega
            have hsz : w2.heap.size ≤ wr.heap.size := HB2.out.size
            by_cases hj0 : j = 0
            · subst hj0
              rw [Nat.add_zero] at g4
              go_wp2
              go_roundw
              case rel =>
                refine ⟨0 + 1, by omega, by go_num, ?_, HB2.out.alloc hsz _⟩
                rw [HT2.out, if_pos rfl, ← strB_append, ← strB_append]
                rfl
              case measure => simp [intOf]; omega
            · have hz : ((j : Int) == 0) = false := by rw [beq_eq_false_iff_ne]; omega
              have HJ0 := Lib.hid hj0
              clear hj0
              go_wp2
              go_roundw
              case rel =>
                refine ⟨j + 1, by omega, by go_num, ?_, HB2.out.alloc hsz _⟩
                rw [HT2.out, if_neg HJ0.out, ← strB_append, ← strB_append]
                rfl
              case measure => simp [intOf]; omega
          · have hje : j = c.length := by omega
            have hlt3 : c.length ≤ j := by omega
            have HE2 : Hid (strB (P ++ cyP 40 (c.take j)) ++ ⟨#[41]⟩ = strB (txtB ((longL p).take (k + 1)))) := Lib.hid (by
              rw [hje, List.take_of_length_le (Nat.le_refl _), HSucc.out, ← strB_append (P ++ cyP 40 c) [41]]
              rfl)
            have hz1 : ¬ 9223372036854775807 < (strB (P ++ cyP 40 (c.take j))).size + 1 := by rw [size_strB, List.length_append, cyP_length, List.length_take]; omega
            have HB2 := Lib.hid hb
            clear hje hb
            go_wp2
            go_roundw
            case rel => exact ⟨k + 1, by omega, by go_num, by rw [← HE2.out], HB2.out⟩
            case measure => simp [intOf]; omega
      · have hke : k = (longL p).length := by omega
        have hlt3 : (longL p).length ≤ k := by omega
        have HE2 : Hid (strB (txtB ((longL p).take k)) = strB (txt p)) := Lib.hid (by rw [hke, List.take_of_length_le (Nat.le_refl _), HE.out])
        clear hke
        go_wp2
        go_ret
        exact ⟨by rw [← HE2.out]; rfl, B2.out.trans (hb.mono B2.out.size)⟩
end Go.Proofs.YtcnkegcogepimaaDoor
