/- (*closed).contains, (*closed).normal, (*closed).central. -/
import Derived.Test.YtdcilefiacohnaaGlaw3
namespace Go.Proofs.Ytdcilefiacohnaa
open Go Go.RowKit

/-- an element that is read out of a row into a new block: the block, afterwards -/
theorem zero7 : (#[.int .u8 0, .int .u8 0, .int .u8 0, .int .u8 0, .int .u8 0, .int .u8 0, .int .u8 0] : Array Value) = u8s (List.replicate 7 0) := rfl
theorem info7 {b : List Int} (h : El b) : (Try.prog.info? 78).map (·.size) = some (b.map (Value.int .u8)).length := by rw [List.length_map, h.2]; exact infoElem

set_option maxRecDepth 100000 in
set_option maxHeartbeats 4000000 in
theorem contains_any {B B2 c m c2 m2 : Nat} {n n2 : Int} {vg vl vg2 vl2 : Value} {G L G2 L2 : List (List Int)} {w : World} (h : Clo B w c m n vg vl G L) (k : Clo B2 w c2 m2 n2 vg2 vl2 G2 L2) (g2 : Grp G2 L2) :
    Calls Try.prog 60 #[.pointer (some ⟨c, 0, none⟩), .pointer (some ⟨c2, 0, none⟩)] w fun e w' => ∃ r, e = .returned (.bool r) ∧ Says r (∀ g ∈ G2, g ∈ L) ∧ Below w.heap.size w w' := by
  have HC := Lib.hid h
  have HK := Lib.hid k
  have HG := Lib.hid g2
  obtain ⟨ag, cg, rfl⟩ := k.rg.slice
  have h0 := k.cells.cell 1
  have hgl := g2.glen
  clear h k g2
  go_enter Try.func60, Try.ntmps60
  go_wp2_with fail
  go_loopw [12] (fun i wr => ∃ k : Nat, i = .int .i64 k ∧ k ≤ G2.length ∧ Hid (∀ i, i < k → G2.getD i [] ∈ L) ∧ Hid (Below w.heap.size w wr)) (fun i _ => G2.length - (intOf i).toNat)
  case atStart => exact ⟨0, rfl, Nat.zero_le _, Lib.hid (fun i hi => by omega), Lib.hid (Below.refl _ _)⟩
  case round =>
    clear h0
    obtain ⟨k, rfl, hk, HT, HB⟩ := hrel
    by_cases hlt : k < G2.length
    · obtain ⟨gg, cg', hag⟩ := HK.out.rg.form (by omega)
      cases hag
      have hr := (HK.out.below HB.out).rg.range (fun x hx => (HG.out.gels x hx).2) k hlt
      obtain ⟨b, hb⟩ : ∃ b, b = G2.getD k [] := ⟨_, rfl⟩
      have hEb : El b := by rw [hb]; exact HG.out.gels _ (getD_mem hlt)
      rw [← hb] at hr
      have HR := Lib.hid hr
      have HBB := Lib.hid hb
      have HE := Lib.hid hEb
      have HR0 := Lib.hid (Blk.new wr 78 #[.int .u8 0, .int .u8 0, .int .u8 0, .int .u8 0, .int .u8 0, .int .u8 0, .int .u8 0])
      have HRX := Lib.hid (Blk.setRow HR0.out (u8s b))
      have HBX := Lib.hid (below_row ((Below.refl wr.heap.size wr).alloc (Nat.le_refl _) (.cells #[.int .u8 0, .int .u8 0, .int .u8 0, .int .u8 0, .int .u8 0, .int .u8 0, .int .u8 0] 78)) wr.heap.size (u8s b) (Nat.le_refl _))
      have HCX := Lib.hid ((HC.out.below HB.out).below HBX.out)
      have HBY := Lib.hid (HB.out.trans (HBX.out.mono HB.out.size))
      clear hb hr hEb
      go_wp2_with (first | (refine wpList_load_mid rfl 78 _ rfl gg (k * 7) rfl (b.map (Value.int .u8)) _ HR.out Try.underlying78 rfl (info7 HE.out) ?_) | (refine wpList_store_row rfl 78 _ _ rfl wr.heap.size (u8s b) rfl rfl 78 #[.int .u8 0, .int .u8 0, .int .u8 0, .int .u8 0, .int .u8 0, .int .u8 0, .int .u8 0] HR0.out (infoElem' HE.out.2) (by rw [size_u8s, HE.out.2]; rfl) (u8s_one b) ?_))
      generalize (wr.alloc (.cells #[.int .u8 0, .int .u8 0, .int .u8 0, .int .u8 0, .int .u8 0, .int .u8 0, .int .u8 0] 78)).setRow wr.heap.size (u8s b) = W at *
      obtain ⟨M, hm, _, hM⟩ := HCX.out.set
      obtain ⟨z, hz⟩ : ∃ z, z = decide (b ∈ M) := ⟨_, rfl⟩
      have HM := Lib.hid hm
      have HMM := Lib.hid hM
      have HZ := Lib.hid hz
      clear hm hM hz HR HR0 HBX HB
      simp [Act.put]
      refine wp_region_held_all (S := fun w' => Below W.heap.size W w') (by kernel_rfl) ?_
      have hS : Below W.heap.size W W.drew := below_drewN' (Below.refl _ _) 1
      refine held_take (i := 0) (v := .pointer (some ⟨c, 0, none⟩)) rfl rfl (by kernel_rfl) (by kernel_rfl) (by kernel_rfl) (fun w' h => by go_simp) hS ?_
      refine held_take (i := 1) (v := .pointer (some ⟨c, 0, none⟩)) rfl rfl (by kernel_rfl) (by kernel_rfl) (by kernel_rfl) (fun w' h => by go_simp) hS ?_
      refine held_take (i := 2) (v := .pointer (some ⟨c, 3, none⟩)) rfl rfl (by kernel_rfl) (by kernel_rfl) (by kernel_rfl) (fun w' h => by go_simp) hS ?_
      refine held_take (i := 3) (v := .map (some m)) rfl rfl (by kernel_rfl) (by kernel_rfl) (by kernel_rfl) (fun w' h => by have h1 := (HCX.out.cells.below h).cell 3; go_simp) hS ?_
      refine held_take (i := 4) (v := .agg (u8s b)) rfl rfl (by kernel_rfl) (by kernel_rfl) (by kernel_rfl) (fun w' h => run_row_op 78 _ rfl wr.heap.size rfl 78 (u8s b) (0, 0) _ (HRX.out.below h) Try.underlying78 rfl (infoElem' HE.out.2)) hS ?_
      refine held_take (i := 5) (v := .bool z) rfl rfl (by kernel_rfl) (by kernel_rfl) (by kernel_rfl) (fun w' h => by rw [HZ.out]; exact run_look_op _ _ rfl m M rfl (HM.out.below h) b rfl HE.out.e7) hS ?_
      refine held_take (i := 6) (v := .bool (!z)) rfl rfl (by kernel_rfl) (by kernel_rfl) (by kernel_rfl) (fun w' h => by go_simp) hS ?_
      refine held_done (by kernel_rfl) ?_
      have HB2 := Lib.hid (HBY.out.trans (hS.mono HBY.out.size))
      clear hS
      simp [Act.put]
      generalize W.drew = W2 at *
      cases z with
      | true =>
        have HT2 := Lib.hid (show ∀ i, i < k + 1 → G2.getD i [] ∈ L from fun i hi => by
          by_cases e : i = k
          · subst e; rw [← HBB.out]; exact (HMM.out b).1 (of_decide_eq_true HZ.out.symm)
          · exact HT.out i (by omega))
        go_wp2_with fail
        go_roundw
        case rel => exact ⟨k + 1, by go_num, by omega, HT2, HB2⟩
        case measure => simp [intOf]; omega
      | false =>
        have HS := Lib.hid (show Says false (∀ g ∈ G2, g ∈ L) from Says.no fun hp => of_decide_eq_false HZ.out.symm ((HMM.out b).2 (by rw [HBB.out]; exact hp _ (getD_mem hlt))))
        go_wp2_with fail
        go_ret
        exact ⟨false, rfl, HS.out, HB2.out⟩
    · have HS := Lib.hid (show Says true (∀ g ∈ G2, g ∈ L) from Says.yes fun g hg => by
        obtain ⟨i, hi, rfl⟩ := List.getElem_of_mem hg
        have := HT.out i (by omega)
        simpa [hi] using this)
      go_wp2_with fail
      go_ret
      exact ⟨true, rfl, HS.out, HB.out⟩

set_option maxRecDepth 100000 in
set_option maxHeartbeats 4000000 in
theorem normal_any {B B2 c m c2 m2 : Nat} {n n2 : Int} {vg vl vg2 vl2 : Value} {G L G2 L2 : List (List Int)} {w : World} (h : Clo B w c m n vg vl G L) (g1 : Grp G L) (k : Clo B2 w c2 m2 n2 vg2 vl2 G2 L2) (g2 : Grp G2 L2) :
    Calls Try.prog 61 #[.pointer (some ⟨c, 0, none⟩), .pointer (some ⟨c2, 0, none⟩)] w fun e w' => ∃ r, e = .returned (.bool r) ∧ Says r (∀ g ∈ G2, ∀ y ∈ G, conjL g y ∈ L2) ∧ Below w.heap.size w w' := by
  have HC := Lib.hid h
  have HK := Lib.hid k
  have HG := Lib.hid g2
  have HG1 := Lib.hid g1
  obtain ⟨ag, cg, rfl⟩ := k.rg.slice
  obtain ⟨ag1, cg1, rfl⟩ := h.rg.slice
  have h0 := k.cells.cell 1
  have hgl := g2.glen
  have hgl1 := g1.glen
  clear h k g2 g1
  go_enter Try.func61, Try.ntmps61
  go_wp2_with fail
  go_loopw [14] (fun i wr => ∃ k : Nat, i = .int .i64 k ∧ k ≤ G2.length ∧ Hid (∀ i, i < k → ∀ j, j < G.length → conjL (G2.getD i []) (G.getD j []) ∈ L2) ∧ Hid (Below w.heap.size w wr)) (fun i _ => G2.length - (intOf i).toNat)
  case atStart => exact ⟨0, rfl, Nat.zero_le _, Lib.hid (fun i hi => by omega), Lib.hid (Below.refl _ _)⟩
  case round =>
    clear h0
    obtain ⟨k, rfl, hk, HT, HB⟩ := hrel
    by_cases hlt : k < G2.length
    · obtain ⟨wo, hwo⟩ : ∃ W, W = wr := ⟨_, rfl⟩
      subst hwo
      obtain ⟨gg, cg', hag⟩ := HK.out.rg.form (by omega)
      cases hag
      have hr := (HK.out.below HB.out).rg.range (fun x hx => (HG.out.gels x hx).2) k hlt
      obtain ⟨a, ha⟩ : ∃ a, a = G2.getD k [] := ⟨_, rfl⟩
      have hEa : El a := by rw [ha]; exact HG.out.gels _ (getD_mem hlt)
      rw [← ha] at hr
      have HR := Lib.hid hr
      have HA := Lib.hid ha
      have HEA := Lib.hid hEa
      have HQ0 := Lib.hid (Blk.new wo 78 #[.int .u8 0, .int .u8 0, .int .u8 0, .int .u8 0, .int .u8 0, .int .u8 0, .int .u8 0])
      have HQ := Lib.hid (Blk.setRow HQ0.out (u8s a))
      have HBQ := Lib.hid (below_row ((Below.refl wo.heap.size wo).alloc (Nat.le_refl _) (.cells #[.int .u8 0, .int .u8 0, .int .u8 0, .int .u8 0, .int .u8 0, .int .u8 0, .int .u8 0] 78)) wo.heap.size (u8s a) (Nat.le_refl _))
      have HBX := Lib.hid (HB.out.trans (HBQ.out.mono HB.out.size))
      have h3 := (HC.out.cells.below HBX.out).cell 1
      clear hr ha hEa
      go_wp2_with (first | (refine wpList_load_mid rfl 78 _ rfl gg (k * 7) rfl (a.map (Value.int .u8)) _ HR.out Try.underlying78 rfl (info7 HEA.out) ?_) | (refine wpList_store_row rfl 78 _ _ rfl wo.heap.size (u8s a) rfl rfl 78 #[.int .u8 0, .int .u8 0, .int .u8 0, .int .u8 0, .int .u8 0, .int .u8 0, .int .u8 0] HQ0.out (infoElem' HEA.out.2) (by rw [size_u8s, HEA.out.2]; rfl) (u8s_one a) ?_))
      clear HR HQ0 HBQ HB h3
      go_loopw [23] (fun i wr => ∃ j : Nat, i = .int .i64 j ∧ j ≤ G.length ∧ Hid (∀ i, i < j → conjL a (G.getD i []) ∈ L2) ∧ Hid (Below w.heap.size w wr) ∧ Hid (Blk wr wo.heap.size 78 (u8s a))) (fun i _ => G.length - (intOf i).toNat)
      case atStart => exact ⟨0, rfl, Nat.zero_le _, Lib.hid (fun i hi => by omega), HBX, HQ⟩
      case round =>
        clear HBX HQ
        obtain ⟨j, rfl, hj, HU, HB, HQ⟩ := hrel
        by_cases hjl : j < G.length
        · obtain ⟨gh, ch, hag⟩ := HC.out.rg.form (by omega)
          cases hag
          have hr := (HC.out.below HB.out).rg.range (fun x hx => (HG1.out.gels x hx).2) j hjl
          obtain ⟨b, hb⟩ : ∃ b, b = G.getD j [] := ⟨_, rfl⟩
          have hEb : El b := by rw [hb]; exact HG1.out.gels _ (getD_mem hjl)
          rw [← hb] at hr
          have HR := Lib.hid hr
          have HBB := Lib.hid hb
          have HE := Lib.hid hEb
          have HR0 := Lib.hid (Blk.new wr 78 #[.int .u8 0, .int .u8 0, .int .u8 0, .int .u8 0, .int .u8 0, .int .u8 0, .int .u8 0])
          have HRX := Lib.hid (Blk.setRow HR0.out (u8s b))
          have HBX := Lib.hid (below_row ((Below.refl wr.heap.size wr).alloc (Nat.le_refl _) (.cells #[.int .u8 0, .int .u8 0, .int .u8 0, .int .u8 0, .int .u8 0, .int .u8 0, .int .u8 0] 78)) wr.heap.size (u8s b) (Nat.le_refl _))
          have HQX := Lib.hid (HQ.out.below HBX.out)
          have HKX := Lib.hid ((HK.out.below HB.out).below HBX.out)
          have HBY := Lib.hid (HB.out.trans (HBX.out.mono HB.out.size))
          clear hb hr hEb
          go_wp2_with (first | (refine wpList_load_mid rfl 78 _ rfl gh (j * 7) rfl (b.map (Value.int .u8)) _ HR.out Try.underlying78 rfl (info7 HE.out) ?_) | (refine wpList_store_row rfl 78 _ _ rfl wr.heap.size (u8s b) rfl rfl 78 #[.int .u8 0, .int .u8 0, .int .u8 0, .int .u8 0, .int .u8 0, .int .u8 0, .int .u8 0] HR0.out (infoElem' HE.out.2) (by rw [size_u8s, HE.out.2]; rfl) (u8s_one b) ?_))
          generalize (wr.alloc (.cells #[.int .u8 0, .int .u8 0, .int .u8 0, .int .u8 0, .int .u8 0, .int .u8 0, .int .u8 0] 78)).setRow wr.heap.size (u8s b) = W at *
          obtain ⟨M, hm, _, hM⟩ := HKX.out.set
          obtain ⟨z, hz⟩ : ∃ z, z = decide (conjL a b ∈ M) := ⟨_, rfl⟩
          have HM := Lib.hid hm
          have HMM := Lib.hid hM
          have HZ := Lib.hid hz
          have HEC := Lib.hid (HEA.out.conj HE.out)
          have HCj := Lib.hid (cjTo_eq HEA.out HE.out)
          clear hm hM hz HR HR0 HBX HB
          simp [Act.put]
          refine wp_region_held_all (S := fun w' => Below W.heap.size W w') (by kernel_rfl) ?_
          have hS : Below W.heap.size W W.drew := below_drewN' (Below.refl _ _) 1
          refine held_take (i := 0) (v := .pointer (some ⟨c2, 0, none⟩)) rfl rfl (by kernel_rfl) (by kernel_rfl) (by kernel_rfl) (fun w' h => by go_simp) hS ?_
          refine held_take (i := 1) (v := .pointer (some ⟨c2, 0, none⟩)) rfl rfl (by kernel_rfl) (by kernel_rfl) (by kernel_rfl) (fun w' h => by go_simp) hS ?_
          refine held_take (i := 2) (v := .pointer (some ⟨c2, 3, none⟩)) rfl rfl (by kernel_rfl) (by kernel_rfl) (by kernel_rfl) (fun w' h => by go_simp) hS ?_
          refine held_take (i := 3) (v := .map (some m2)) rfl rfl (by kernel_rfl) (by kernel_rfl) (by kernel_rfl) (fun w' h => by have h1 := (HKX.out.cells.below h).cell 3; go_simp) hS ?_
          refine held_take (i := 4) (v := .agg (u8s a)) rfl rfl (by kernel_rfl) (by kernel_rfl) (by kernel_rfl) (fun w' h => run_row_op 78 _ rfl wo.heap.size rfl 78 (u8s a) (0, 0) _ (HQX.out.below h) Try.underlying78 rfl (infoElem' HEA.out.2)) hS ?_
          refine held_take (i := 5) (v := .agg (u8s b)) rfl rfl (by kernel_rfl) (by kernel_rfl) (by kernel_rfl) (fun w' h => run_row_op 78 _ rfl wr.heap.size rfl 78 (u8s b) (0, 0) _ (HRX.out.below h) Try.underlying78 rfl (infoElem' HE.out.2)) hS ?_
          simp [Act.put]
          refine held_only (i := 6) rfl rfl (by kernel_rfl) (wp_call_any 82 Try.func82 (by kernel_rfl) rfl _ _ rfl #[.agg (u8s a), .agg (u8s b)] rfl ((conj_el a b W.drew HEA.out.e7 HE.out.e7).mono ?_))
          rintro e w5 ⟨rfl, hb5⟩
          have hS5 : Below W.heap.size W w5 := hS.trans (hb5.mono hS.size)
          refine ⟨_, rfl, hS5, ?_⟩
          rw [HCj.out]
          clear hb5
          simp [Act.put]
          refine held_take (i := 7) (v := .bool z) rfl rfl (by kernel_rfl) (by kernel_rfl) (by kernel_rfl) (fun w' h => by rw [HZ.out]; exact run_look_op _ _ rfl m2 M rfl (HM.out.below h) (conjL a b) rfl HEC.out.e7) hS5 ?_
          refine held_take (i := 8) (v := .bool (!z)) rfl rfl (by kernel_rfl) (by kernel_rfl) (by kernel_rfl) (fun w' h => by go_simp) hS5 ?_
          refine held_done (by kernel_rfl) ?_
          have HB2 := Lib.hid (HBY.out.trans (hS5.mono HBY.out.size))
          have HQ2 := Lib.hid (HQX.out.below hS5)
          clear hS hS5
          simp [Act.put]
          cases z with
          | true =>
            have HU2 := Lib.hid (show ∀ i, i < j + 1 → conjL a (G.getD i []) ∈ L2 from fun i hi => by
              by_cases e : i = j
              · subst e; rw [← HBB.out]; exact (HMM.out _).1 (of_decide_eq_true HZ.out.symm)
              · exact HU.out i (by omega))
            go_wp2_with fail
            go_roundw
            case rel => exact ⟨j + 1, by go_num, by omega, HU2, HB2, HQ2⟩
            case measure => simp [intOf]; omega
          | false =>
            have HS := Lib.hid (show Says false (∀ g ∈ G2, ∀ y ∈ G, conjL g y ∈ L2) from Says.no fun hp => of_decide_eq_false HZ.out.symm ((HMM.out _).2 (by rw [HA.out, HBB.out]; exact hp _ (getD_mem hlt) _ (getD_mem hjl))))
            go_wp2_with fail
            go_ret
            exact ⟨false, rfl, HS.out, HB2.out⟩
        · have HT2 := Lib.hid (show ∀ i, i < k + 1 → ∀ j, j < G.length → conjL (G2.getD i []) (G.getD j []) ∈ L2 from fun i hi j' hj' => by
            by_cases e : i = k
            · subst e; rw [← HA.out]; exact HU.out j' (by omega)
            · exact HT.out i (by omega) j' hj')
          go_wp2_with fail
          go_roundw
          case rel => exact ⟨k + 1, by go_num, by omega, HT2, HB⟩
          case measure => simp [intOf]; omega
    · have HS := Lib.hid (show Says true (∀ g ∈ G2, ∀ y ∈ G, conjL g y ∈ L2) from Says.yes fun g hg y hy => by
        obtain ⟨i, hi, rfl⟩ := List.getElem_of_mem hg
        obtain ⟨j, hj, rfl⟩ := List.getElem_of_mem hy
        have := HT.out i (by omega) j hj
        simpa [hi, hj] using this)
      go_wp2_with fail
      go_ret
      exact ⟨true, rfl, HS.out, HB.out⟩
end Go.Proofs.Ytdcilefiacohnaa
