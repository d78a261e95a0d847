/- package group's pack, unpack and commutator. -/
import Derived.Test.YtdcilefiacohnaaProg
import Derived.Test.YtdcilefiacohnaaElem
import Derived.Test.YtdcilefiacohnaaGrpL
import Derived.Deep.RegionLaw
import Derived.StillTailTactics
import Derived.Test.YtdcilefiacohnaaQTail
namespace Go.Proofs.Ytdcilefiacohnaa
open Go.RowKit

theorem pk7_step {p : List Int} {k : Nat} (hp : p.length ≤ 7) (hk : k < p.length) : (p.take k ++ (idL 7).drop k).set k (p.getD k 0) = p.take (k + 1) ++ (idL 7).drop (k + 1) := by
  have h7 := length_idL 7
  rw [List.set_append_right _ _ (by rw [List.length_take]; omega), List.length_take, Nat.min_eq_left (by omega), Nat.sub_self, List.drop_eq_getElem_cons (show k < (idL 7).length by omega), List.set_cons_zero, List.take_succ_eq_append_getElem hk, List.append_assoc]
  simp [hk]

set_option maxRecDepth 100000 in
set_option maxHeartbeats 1000000 in
theorem pack_any (v : Value) (p : List Int) (w : World) (h1 : Sl w v p) (hv : validL p = true) :
    Calls Try.prog 67 #[v] w fun e w' => e = .returned (.agg (u8s (pk7 p))) ∧ Below w.heap.size w w' := by
  have H1 := Lib.hid h1
  obtain ⟨a, ca, rfl, h1⟩ := h1
  have hp7 := ((validL_iff p).1 hv).2.1
  have HIn := Lib.hid (fun k (hk : k < p.length) => inR_of_valid hv k hk)
  have b1 := Blk.new w 78 #[.int .u8 0, .int .u8 0, .int .u8 0, .int .u8 0, .int .u8 0, .int .u8 0, .int .u8 0]
  have hb0 := (Below.refl w.heap.size w).alloc (Nat.le_refl _) (.cells #[.int .u8 0, .int .u8 0, .int .u8 0, .int .u8 0, .int .u8 0, .int .u8 0, .int .u8 0] 78)
  have C1 := Lib.hid b1
  have HB0 := Lib.hid hb0
  clear b1 hb0 hv h1
  go_enter Try.func67, Try.ntmps67
  go_wp2_with fail
  refine (neutral_any _).mono ?_
  rintro e w1 ⟨rfl, b1⟩
  have C1 := Lib.hid (C1.out.below (b1.mono (Nat.le_refl _)))
  have HB1 := Lib.hid (HB0.out.trans (b1.mono (by simp)))
  have hlt1 : w.heap.size < w1.heap.size := C1.out.lt
  have c2 := Blk.new w1 78 #[.int .u8 0, .int .u8 0, .int .u8 0, .int .u8 0, .int .u8 0, .int .u8 0, .int .u8 0]
  have C2 := Lib.hid c2
  clear b1 c2 HB0
  go_wp2_with (refine wpList_store_row rfl 78 _ _ rfl w1.heap.size (u8s (idL 7)) rfl rfl 78 #[.int .u8 0, .int .u8 0, .int .u8 0, .int .u8 0, .int .u8 0, .int .u8 0, .int .u8 0] C2.out (infoElem' (length_idL 7)) rfl (u8s_one _) ?_)
  have D1 := Lib.hid (show Blk _ w1.heap.size 78 (u8s (p.take 0 ++ (idL 7).drop 0)) from Blk.setRow C2.out (u8s (idL 7)))
  have D2 := Lib.hid (show Blk _ w.heap.size 78 _ from (setRow_other _ w1.heap.size w.heap.size (u8s (idL 7)) (by omega)).trans (C1.out.alloc (.cells #[.int .u8 0, .int .u8 0, .int .u8 0, .int .u8 0, .int .u8 0, .int .u8 0, .int .u8 0] 78)))
  have DB := Lib.hid (below_row (HB1.out.alloc (by omega) (.cells #[.int .u8 0, .int .u8 0, .int .u8 0, .int .u8 0, .int .u8 0, .int .u8 0, .int .u8 0] 78)) w1.heap.size (u8s (idL 7)) (by omega))
  clear C1 C2 HB1
  go_loopw [9] (fun i wr => ∃ k : Nat, k ≤ p.length ∧ i = .int .i64 k ∧ Hid (Blk wr w1.heap.size 78 (u8s (p.take k ++ (idL 7).drop k))) ∧ Hid (Blk wr w.heap.size 78 #[.int .u8 0, .int .u8 0, .int .u8 0, .int .u8 0, .int .u8 0, .int .u8 0, .int .u8 0]) ∧ Below w.heap.size w wr) (fun i _ => p.length - (intOf i).toNat)
  case atStart => exact ⟨0, by omega, rfl, D1, D2, DB.out⟩
  case round =>
    clear D1 D2 DB
    obtain ⟨k, hk, rfl, D1, D2, hb⟩ := hrel
    by_cases hlt : k < p.length
    · obtain ⟨a', ca', e1, h1⟩ := (H1.out.below hb)
      rcases h1 with h1 | ⟨b1, o1, rfl, c1⟩
      · simp [h1] at hlt
      cases e1
      obtain ⟨r0, r1⟩ := HIn.out k hlt
      have g1 := c1 k hlt
      have hstep := pk7_step hp7 hlt
      obtain ⟨x, hx⟩ : ∃ x, x = p.getD k 0 := ⟨_, rfl⟩
      rw [← hx] at g1 r0 r1 hstep
      have hl7 : (p.take k ++ (idL 7).drop k).length = 7 := by rw [List.length_append, List.length_take, List.length_drop, length_idL]; omega
      have hset := D1.out.set k (.int .u8 x)
      rw [u8s_set, hstep] at hset
      have hw8 : IntKind.u8.wrap x = x := by simp [IntKind.wrap, IntKind.bits, IntKind.signed]; omega
      have hcur : ∃ u, wr.cell? ⟨w1.heap.size, k, none⟩ = some u := ⟨_, by rw [D1.out.cell k]; exact u8s_get _ k (by omega)⟩
      obtain ⟨u, hcur⟩ := hcur
      have hf := D1.out.free k
      have H3 := Lib.hid hset
      have H4 := Lib.hid (D2.out.other w1.heap.size k (.int .u8 x) (by omega))
      have hk7 : k < 7 := by omega
      clear hset hx hstep c1 D1 D2 hl7
      go_wp2
      go_roundw
      case rel => exact ⟨k + 1, by omega, by go_num, H3, H4, hb.setCell (by show w.heap.size ≤ w1.heap.size; omega) _⟩
      case measure => simp [intOf]; omega
    · have hke : k = p.length := by omega
      have hE7 : Blk wr w1.heap.size 78 (u8s (pk7 p)) := by
        have := D1.out
        rwa [hke, List.take_length] at this
      have hl8 : (pk7 p).length = 7 := length_pk7 hp7
      have hi1 := infoElem' hl8
      have hone := u8s_one (pk7 p)
      have HRow := Lib.hid (D2.out.setRow (u8s (pk7 p)))
      have HB2 := Lib.hid (below_row hb w.heap.size (u8s (pk7 p)) (by omega))
      have hlt' : p.length ≤ k := by omega
      clear hke
      go_wp2_with (first | (refine wpList_load_row rfl 78 _ rfl w1.heap.size rfl 78 (u8s (pk7 p)) (0, 0) _ hE7 Try.underlying78 rfl hi1 ?_) | (refine wpList_store_row rfl 78 _ _ rfl w.heap.size (u8s (pk7 p)) rfl rfl 78 #[.int .u8 0, .int .u8 0, .int .u8 0, .int .u8 0, .int .u8 0, .int .u8 0, .int .u8 0] D2.out hi1 (by rw [size_u8s, hl8]; rfl) hone ?_))
      exact bodyPost_ret (res_elem rfl _ _ w.heap.size (u8s (pk7 p)) rfl HRow.out hi1) rfl ⟨rfl, HB2.out⟩

theorem take_add_get {a : List Int} {k : Nat} (h : k < a.length) : a.take (k + 1) = a.take k ++ [a.getD k 0] := by
  rw [List.take_succ_eq_append_getElem h]; simp [h]

set_option maxHeartbeats 400000 in
/-- the first n images -/
theorem unpack_any (a : List Int) (n : Nat) (w : World) (ha : E7 a) (hn : n ≤ 7) :
    Calls Try.prog 70 #[.agg (u8s a), .int .i64 n] w fun e w' => ∃ v, e = .returned v ∧ Ow w.heap.size w' v (a.take n) ∧ Below w.heap.size w w' := by
  obtain ⟨i0, hi, hz0, hz1, hz2⟩ := info_parts infoInt
  have b1 := Blk.new w 78 (u8s a)
  have hb0 := (Below.refl w.heap.size w).alloc (Nat.le_refl _) (.cells (u8s a) 78)
  have C1 := Lib.hid b1
  have HB0 := Lib.hid hb0
  clear b1 hb0
  go_enter Try.func70, Try.ntmps70
  go_wp2_with (at_make; refine wpList_make_full _ rfl _ _ 32 rfl (w.heap.size + 1) 3 i0 (.int .i64 0) 1 Try.underlying32 hi hz0 hz1 _ _ _ _ n rfl rfl rfl rfl (by rw [hz2]; omega) (by unfold maxLen; omega) (by simp) ?_; intro w1 hown hgrow)
  clear i0 hi hz0 hz1 hz2
  rw [World.size_alloc] at hown
  have HB := Lib.hid (show Blk w1 (w.heap.size + 1) 3 (ints ((a.take n).take 0 ++ List.replicate ((a.take n).length - 0) 0)) from by
    have := blk_of_made hown
    have e : (a.take n).length = n := by rw [List.length_take, ha.1]; omega
    rw [e]; exact this)
  have HG := Below.of_grown hgrow
  rw [World.size_alloc] at HG
  have CA := Lib.hid (C1.out.below (by rw [World.size_alloc]; exact HG))
  have HBB := Lib.hid (HB0.out.trans (HG.mono (by omega)))
  clear hown hgrow HG C1 HB0
  go_wp2
  have hln : (a.take n).length = n := by rw [List.length_take, ha.1]; omega
  have HLN := Lib.hid hln
  rw [hln] at HB
  clear hln
  go_loopw [11] (fun i wr => ∃ k : Nat, k ≤ n ∧ i = .int .i64 k ∧ Hid (Blk wr w.heap.size 78 (u8s a)) ∧ Hid (Blk wr (w.heap.size + 1) 3 (ints ((a.take n).take k ++ List.replicate (n - k) 0))) ∧ Below w.heap.size w wr) (fun i _ => n - (intOf i).toNat)
  case atStart => exact ⟨0, by omega, rfl, CA, HB, HBB.out⟩
  case round =>
    clear CA HB HBB
    obtain ⟨k, hk, rfl, CA, HB, hb⟩ := hrel
    by_cases hlt : k < n
    · have hk7 : k < 7 := by omega
      have g1 := CA.out.cell k
      rw [u8s_get a k (by rw [ha.1]; exact hk7)] at g1
      obtain ⟨x0, x1⟩ := ha.2 k hk7
      obtain ⟨x, hx⟩ : ∃ x, x = a.getD k 0 := ⟨_, rfl⟩
      have hgt : x = (a.take n).getD k 0 := by
        rw [hx, List.getD_eq_getElem?_getD, List.getD_eq_getElem?_getD, List.getElem?_take_of_lt hlt]
      rw [← hx] at g1 x0 x1
      have hst := fill_set (a.take n) k (by rw [HLN.out]; exact hlt) x hgt
      rw [HLN.out] at hst
      have hset := HB.out.set k (.int .i64 x)
      rw [ints_set, hst] at hset
      have hc : ∃ u, wr.cell? ⟨w.heap.size + 1, k, none⟩ = some u := ⟨_, by rw [HB.out.cell k]; exact ints_get _ k (by rw [List.length_append, List.length_take, List.length_replicate, HLN.out]; omega)⟩
      obtain ⟨u, hc⟩ := hc
      have hf := HB.out.free k
      have H3 := Lib.hid hset
      have H4 := Lib.hid (CA.out.other (w.heap.size + 1) k (.int .i64 x) (by omega))
      clear hset hx hst hgt CA HB
      go_wp2
      go_roundw
      case rel => exact ⟨k + 1, by omega, by go_num, H4, H3, hb.setCell (by show w.heap.size ≤ w.heap.size + 1; omega) _⟩
      case measure => simp [intOf]; omega
    · have hke : k = n := by omega
      have hO : Ow w.heap.size wr (.slice (some ⟨w.heap.size + 1, 0, none⟩) n n) (a.take n) := by
        have := HB.out
        rw [hke, Nat.sub_self, List.replicate_zero, List.append_nil, List.take_of_length_le (by rw [HLN.out]; exact Nat.le_refl _)] at this
        exact Ow.of_blk this (by omega) (by rw [HLN.out]; omega) _ HLN.out.symm
      have hlt' : n ≤ k := by omega
      clear hke HB
      go_wp2
      go_ret
      exact ⟨_, rfl, hO, hb⟩

set_option maxRecDepth 100000 in
set_option maxHeartbeats 1000000 in
/-- the commutator -/
theorem commutator_el (a b : List Int) (w : World) (ha : El a) (hE : El b) :
    Calls Try.prog 81 #[.agg (u8s a), .agg (u8s b)] w fun e w' => e = .returned (.agg (u8s (mulL (invL a) (cjTo a b 7)))) ∧ Below w.heap.size w w' := by
  have b1 := Blk.new w 78 (u8s a)
  have b2 := Blk.new (w.alloc (.cells (u8s a) 78)) 78 (u8s b)
  rw [World.size_alloc] at b2
  have b3 := Blk.new ((w.alloc (.cells (u8s a) 78)).alloc (.cells (u8s b) 78)) 78 #[.int .u8 0, .int .u8 0, .int .u8 0, .int .u8 0, .int .u8 0, .int .u8 0, .int .u8 0]
  rw [World.size_alloc, World.size_alloc] at b3
  have hbw := (((Below.refl w.heap.size w).alloc (Nat.le_refl _) (.cells (u8s a) 78)).alloc (by simp) (.cells (u8s b) 78)).alloc (by simp; omega) (.cells #[.int .u8 0, .int .u8 0, .int .u8 0, .int .u8 0, .int .u8 0, .int .u8 0, .int .u8 0] 78)
  have c1 := Lib.hid ((b1.alloc (.cells (u8s b) 78)).alloc (.cells #[.int .u8 0, .int .u8 0, .int .u8 0, .int .u8 0, .int .u8 0, .int .u8 0, .int .u8 0] 78))
  have c2 := Lib.hid (b2.alloc (.cells #[.int .u8 0, .int .u8 0, .int .u8 0, .int .u8 0, .int .u8 0, .int .u8 0, .int .u8 0] 78))
  have c3 := Lib.hid b3
  have HBW := Lib.hid hbw
  clear b1 b2 b3 hbw
  have hinv := (ha.inv).e7
  have hcj : E7 (cjTo a b 7) := by rw [cjTo_eq ha hE]; exact (ha.conj hE).e7
  have hmul : (mulL (invL a) (cjTo a b 7)).length = 7 := by rw [length_mulL]; exact hinv.1
  go_enter Try.func81, Try.ntmps81
  go_wp2
  generalize ((w.alloc (.cells (u8s a) 78)).alloc (.cells (u8s b) 78)).alloc (.cells #[.int .u8 0, .int .u8 0, .int .u8 0, .int .u8 0, .int .u8 0, .int .u8 0, .int .u8 0] 78) = W at *
  refine wp_region_quiet_then (C := fun w' => Below W.heap.size W w') 6 (by kernel_rfl) (by kernel_rfl) (below_drewN' (Below.refl _ _) 1) ?_
  simp only [List.take_succ_cons, List.take_zero, List.drop_succ_cons, List.drop_zero]
  refine wpQuiet_load_row rfl 78 _ rfl (w.heap.size) rfl 78 (u8s a) (0, 0) _ (fun w' hw' => c1.out.below hw') Try.underlying78 rfl (infoElem' ha.2) ?_
  refine wpQuiet_call rfl _ Try.func94 (by kernel_rfl) rfl _ _ rfl #[.agg (u8s a)] rfl (.agg (u8s (invL a))) (fun w' hw' => (inverse_el a w' ha.e7).mono fun e w'' h => ⟨h.1, hw'.trans (h.2.mono hw'.size)⟩) ?_
  refine wpQuiet_load_row rfl 78 _ rfl (w.heap.size) rfl 78 (u8s a) (0, 0) _ (fun w' hw' => c1.out.below hw') Try.underlying78 rfl (infoElem' ha.2) ?_
  refine wpQuiet_load_row rfl 78 _ rfl (w.heap.size + 1) rfl 78 (u8s b) (0, 0) _ (fun w' hw' => c2.out.below hw') Try.underlying78 rfl (infoElem' hE.2) ?_
  refine wpQuiet_call rfl _ Try.func82 (by kernel_rfl) rfl _ _ rfl #[.agg (u8s a), .agg (u8s b)] rfl (.agg (u8s (cjTo a b 7))) (fun w' hw' => (conj_el a b w' ha.e7 hE.e7).mono fun e w'' h => ⟨h.1, hw'.trans (h.2.mono hw'.size)⟩) ?_
  refine wpQuiet_call rfl _ Try.func83 (by kernel_rfl) rfl _ _ rfl #[.agg (u8s (invL a)), .agg (u8s (cjTo a b 7))] rfl (.agg (u8s (mulL (invL a) (cjTo a b 7)))) (fun w' hw' => (times_any (invL a) (cjTo a b 7) w' hinv hcj).mono fun e w'' h => ⟨h.1, hw'.trans (h.2.mono hw'.size)⟩) ?_
  refine wpQuiet_nil ?_
  intro w' hw'
  have hs : w.heap.size + 1 + 1 < W.heap.size := c3.out.lt
  have H3 := c3.out.below hw'
  have HRow := Lib.hid (H3.setRow (u8s (mulL (invL a) (cjTo a b 7))))
  have HB2 := Lib.hid (below_row (HBW.out.trans (hw'.mono (by omega))) (w.heap.size + 1 + 1) (u8s (mulL (invL a) (cjTo a b 7))) (by omega))
  have hi1 := infoElem' hmul
  have hone := u8s_one (mulL (invL a) (cjTo a b 7))
  clear c1 c2 c3 HBW hs hw' hinv hcj
  refine wpList_store_row rfl 78 _ _ rfl (w.heap.size + 1 + 1) (u8s (mulL (invL a) (cjTo a b 7))) rfl rfl 78 #[.int .u8 0, .int .u8 0, .int .u8 0, .int .u8 0, .int .u8 0, .int .u8 0, .int .u8 0] H3 hi1 (by rw [size_u8s, hmul]; rfl) hone ?_
  go_wp2
  exact bodyPost_ret (res_elem rfl _ _ (w.heap.size + 1 + 1) (u8s (mulL (invL a) (cjTo a b 7))) rfl HRow.out hi1) rfl ⟨rfl, HB2.out⟩
end Go.Proofs.Ytdcilefiacohnaa
