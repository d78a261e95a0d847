/- (*closed).contains, (*closed).normal, (*closed).central. | group.Normal. | The reference's In, Within, conjugate and Normal. -/
import Derived.Test.YtdcilefiacohnaaGlaw3
namespace Go.Proofs.Ytdcilefiacohnaa
open Go Go.RowKit

/-- an element that is read out of a row into a new block: the block, afterwards -/
theorem zero7 : (#[.int .u8 0, .int .u8 0, .int .u8 0, .int .u8 0, .int .u8 0, .int .u8 0, .int .u8 0] : Array Value) = u8s (List.replicate 7 0) := rfl
theorem info7 {b : List Int} (h : El b) : (Try.prog.info? 78).map (·.size) = some (b.map (Value.int .u8)).length := by rw [List.length_map, h.2]; exact infoElem

set_option maxRecDepth 100000 in
set_option maxHeartbeats 4000000 in
theorem contains_any {B B2 c m c2 m2 : Nat} {n n2 : Int} {vg vl vg2 vl2 : Value} {G L G2 L2 : List (List Int)} {w : World} (h : Clo B w c m n vg vl G L) (k : Clo B2 w c2 m2 n2 vg2 vl2 G2 L2) (g2 : Grp G2 L2) :
    Calls Try.prog 60 #[.pointer (some ⟨c, 0, none⟩), .pointer (some ⟨c2, 0, none⟩)] w fun e w' => ∃ r, e = .returned (.bool r) ∧ Says r (∀ g ∈ G2, g ∈ L) ∧ Below w.heap.size w w' := by
  have HC := Lib.hid h
  have HK := Lib.hid k
  have HG := Lib.hid g2
  obtain ⟨ag, cg, rfl⟩ := k.rg.slice
  have h0 := k.cells.cell 1
  have hgl := g2.glen
  clear h k g2
  go_enter Try.func60, Try.ntmps60
  go_wp2_with fail
  go_loopw [12] (fun i wr => ∃ k : Nat, i = .int .i64 k ∧ k ≤ G2.length ∧ Hid (∀ i, i < k → G2.getD i [] ∈ L) ∧ Hid (Below w.heap.size w wr)) (fun i _ => G2.length - (intOf i).toNat)
  case atStart => exact ⟨0, rfl, Nat.zero_le _, Lib.hid (fun i hi => by omega), Lib.hid (Below.refl _ _)⟩
  case round =>
    clear h0
    obtain ⟨k, rfl, hk, HT, HB⟩ := hrel
    by_cases hlt : k < G2.length
    · obtain ⟨gg, cg', hag⟩ := HK.out.rg.form (by omega)
      cases hag
      have hr := (HK.out.below HB.out).rg.range (fun x hx => (HG.out.gels x hx).2) k hlt
      obtain ⟨b, hb⟩ : ∃ b, b = G2.getD k [] := ⟨_, rfl⟩
      have hEb : El b := by rw [hb]; exact HG.out.gels _ (getD_mem hlt)
      rw [← hb] at hr
      have HR := Lib.hid hr
      have HBB := Lib.hid hb
      have HE := Lib.hid hEb
      have HR0 := Lib.hid (Blk.new wr 78 #[.int .u8 0, .int .u8 0, .int .u8 0, .int .u8 0, .int .u8 0, .int .u8 0, .int .u8 0])
      have HRX := Lib.hid (Blk.setRow HR0.out (u8s b))
      have HBX := Lib.hid (below_row ((Below.refl wr.heap.size wr).alloc (Nat.le_refl _) (.cells #[.int .u8 0, .int .u8 0, .int .u8 0, .int .u8 0, .int .u8 0, .int .u8 0, .int .u8 0] 78)) wr.heap.size (u8s b) (Nat.le_refl _))
      have HCX := Lib.hid ((HC.out.below HB.out).below HBX.out)
      have HBY := Lib.hid (HB.out.trans (HBX.out.mono HB.out.size))
      clear hb hr hEb
      go_wp2_with (first | (refine wpList_load_mid rfl 78 _ rfl gg (k * 7) rfl (b.map (Value.int .u8)) _ HR.out Try.underlying78 rfl (info7 HE.out) ?_) | (refine wpList_store_row rfl 78 _ _ rfl wr.heap.size (u8s b) rfl rfl 78 #[.int .u8 0, .int .u8 0, .int .u8 0, .int .u8 0, .int .u8 0, .int .u8 0, .int .u8 0] HR0.out (infoElem' HE.out.2) (by rw [size_u8s, HE.out.2]; rfl) (u8s_one b) ?_))
      generalize (wr.alloc (.cells #[.int .u8 0, .int .u8 0, .int .u8 0, .int .u8 0, .int .u8 0, .int .u8 0, .int .u8 0] 78)).setRow wr.heap.size (u8s b) = W at *
      obtain ⟨M, hm, _, hM⟩ := HCX.out.set
      obtain ⟨z, hz⟩ : ∃ z, z = decide (b ∈ M) := ⟨_, rfl⟩
      have HM := Lib.hid hm
      have HMM := Lib.hid hM
      have HZ := Lib.hid hz
      clear hm hM hz HR HR0 HBX HB
      simp [Act.put]
      refine wp_region_held_all (S := fun w' => Below W.heap.size W w') (by kernel_rfl) ?_
      have hS : Below W.heap.size W W.drew := below_drewN' (Below.refl _ _) 1
      refine held_take (i := 0) (v := .pointer (some ⟨c, 0, none⟩)) rfl rfl (by kernel_rfl) (by kernel_rfl) (by kernel_rfl) (fun w' h => by go_simp) hS ?_
      refine held_take (i := 1) (v := .pointer (some ⟨c, 0, none⟩)) rfl rfl (by kernel_rfl) (by kernel_rfl) (by kernel_rfl) (fun w' h => by go_simp) hS ?_
      refine held_take (i := 2) (v := .pointer (some ⟨c, 3, none⟩)) rfl rfl (by kernel_rfl) (by kernel_rfl) (by kernel_rfl) (fun w' h => by go_simp) hS ?_
      refine held_take (i := 3) (v := .map (some m)) rfl rfl (by kernel_rfl) (by kernel_rfl) (by kernel_rfl) (fun w' h => by have h1 := (HCX.out.cells.below h).cell 3; go_simp) hS ?_
      refine held_take (i := 4) (v := .agg (u8s b)) rfl rfl (by kernel_rfl) (by kernel_rfl) (by kernel_rfl) (fun w' h => run_row_op 78 _ rfl wr.heap.size rfl 78 (u8s b) (0, 0) _ (HRX.out.below h) Try.underlying78 rfl (infoElem' HE.out.2)) hS ?_
      refine held_take (i := 5) (v := .bool z) rfl rfl (by kernel_rfl) (by kernel_rfl) (by kernel_rfl) (fun w' h => by rw [HZ.out]; exact run_look_op _ _ rfl m M rfl (HM.out.below h) b rfl HE.out.e7) hS ?_
      refine held_take (i := 6) (v := .bool (!z)) rfl rfl (by kernel_rfl) (by kernel_rfl) (by kernel_rfl) (fun w' h => by go_simp) hS ?_
      refine held_done (by kernel_rfl) ?_
      have HB2 := Lib.hid (HBY.out.trans (hS.mono HBY.out.size))
      clear hS
      simp [Act.put]
      generalize W.drew = W2 at *
      cases z with
      | true =>
        have HT2 := Lib.hid (show ∀ i, i < k + 1 → G2.getD i [] ∈ L from fun i hi => by
          by_cases e : i = k
          · subst e; rw [← HBB.out]; exact (HMM.out b).1 (of_decide_eq_true HZ.out.symm)
          · exact HT.out i (by omega))
        go_wp2_with fail
        go_roundw
        case rel => exact ⟨k + 1, by go_num, by omega, HT2, HB2⟩
        case measure => simp [intOf]; omega
      | false =>
        have HS := Lib.hid (show Says false (∀ g ∈ G2, g ∈ L) from Says.no fun hp => of_decide_eq_false HZ.out.symm ((HMM.out b).2 (by rw [HBB.out]; exact hp _ (getD_mem hlt))))
        go_wp2_with fail
        go_ret
        exact ⟨false, rfl, HS.out, HB2.out⟩
    · have HS := Lib.hid (show Says true (∀ g ∈ G2, g ∈ L) from Says.yes fun g hg => by
        obtain ⟨i, hi, rfl⟩ := List.getElem_of_mem hg
        have := HT.out i (by omega)
        simpa [hi] using this)
      go_wp2_with fail
      go_ret
      exact ⟨true, rfl, HS.out, HB.out⟩

set_option maxRecDepth 100000 in
set_option maxHeartbeats 4000000 in
theorem normal_any {B B2 c m c2 m2 : Nat} {n n2 : Int} {vg vl vg2 vl2 : Value} {G L G2 L2 : List (List Int)} {w : World} (h : Clo B w c m n vg vl G L) (g1 : Grp G L) (k : Clo B2 w c2 m2 n2 vg2 vl2 G2 L2) (g2 : Grp G2 L2) :
    Calls Try.prog 61 #[.pointer (some ⟨c, 0, none⟩), .pointer (some ⟨c2, 0, none⟩)] w fun e w' => ∃ r, e = .returned (.bool r) ∧ Says r (∀ g ∈ G2, ∀ y ∈ G, conjL g y ∈ L2) ∧ Below w.heap.size w w' := by
  have HC := Lib.hid h
  have HK := Lib.hid k
  have HG := Lib.hid g2
  have HG1 := Lib.hid g1
  obtain ⟨ag, cg, rfl⟩ := k.rg.slice
  obtain ⟨ag1, cg1, rfl⟩ := h.rg.slice
  have h0 := k.cells.cell 1
  have hgl := g2.glen
  have hgl1 := g1.glen
  clear h k g2 g1
  go_enter Try.func61, Try.ntmps61
  go_wp2_with fail
  go_loopw [14] (fun i wr => ∃ k : Nat, i = .int .i64 k ∧ k ≤ G2.length ∧ Hid (∀ i, i < k → ∀ j, j < G.length → conjL (G2.getD i []) (G.getD j []) ∈ L2) ∧ Hid (Below w.heap.size w wr)) (fun i _ => G2.length - (intOf i).toNat)
  case atStart => exact ⟨0, rfl, Nat.zero_le _, Lib.hid (fun i hi => by omega), Lib.hid (Below.refl _ _)⟩
  case round =>
    clear h0
    obtain ⟨k, rfl, hk, HT, HB⟩ := hrel
    by_cases hlt : k < G2.length
    · obtain ⟨wo, hwo⟩ : ∃ W, W = wr := ⟨_, rfl⟩
      subst hwo
      obtain ⟨gg, cg', hag⟩ := HK.out.rg.form (by omega)
      cases hag
      have hr := (HK.out.below HB.out).rg.range (fun x hx => (HG.out.gels x hx).2) k hlt
      obtain ⟨a, ha⟩ : ∃ a, a = G2.getD k [] := ⟨_, rfl⟩
      have hEa : El a := by rw [ha]; exact HG.out.gels _ (getD_mem hlt)
      rw [← ha] at hr
      have HR := Lib.hid hr
      have HA := Lib.hid ha
      have HEA := Lib.hid hEa
      have HQ0 := Lib.hid (Blk.new wo 78 #[.int .u8 0, .int .u8 0, .int .u8 0, .int .u8 0, .int .u8 0, .int .u8 0, .int .u8 0])
      have HQ := Lib.hid (Blk.setRow HQ0.out (u8s a))
      have HBQ := Lib.hid (below_row ((Below.refl wo.heap.size wo).alloc (Nat.le_refl _) (.cells #[.int .u8 0, .int .u8 0, .int .u8 0, .int .u8 0, .int .u8 0, .int .u8 0, .int .u8 0] 78)) wo.heap.size (u8s a) (Nat.le_refl _))
      have HBX := Lib.hid (HB.out.trans (HBQ.out.mono HB.out.size))
      have h3 := (HC.out.cells.below HBX.out).cell 1
      clear hr ha hEa
      go_wp2_with (first | (refine wpList_load_mid rfl 78 _ rfl gg (k * 7) rfl (a.map (Value.int .u8)) _ HR.out Try.underlying78 rfl (info7 HEA.out) ?_) | (refine wpList_store_row rfl 78 _ _ rfl wo.heap.size (u8s a) rfl rfl 78 #[.int .u8 0, .int .u8 0, .int .u8 0, .int .u8 0, .int .u8 0, .int .u8 0, .int .u8 0] HQ0.out (infoElem' HEA.out.2) (by rw [size_u8s, HEA.out.2]; rfl) (u8s_one a) ?_))
      clear HR HQ0 HBQ HB h3
      go_loopw [23] (fun i wr => ∃ j : Nat, i = .int .i64 j ∧ j ≤ G.length ∧ Hid (∀ i, i < j → conjL a (G.getD i []) ∈ L2) ∧ Hid (Below w.heap.size w wr) ∧ Hid (Blk wr wo.heap.size 78 (u8s a))) (fun i _ => G.length - (intOf i).toNat)
      case atStart => exact ⟨0, rfl, Nat.zero_le _, Lib.hid (fun i hi => by omega), HBX, HQ⟩
      case round =>
        clear HBX HQ
        obtain ⟨j, rfl, hj, HU, HB, HQ⟩ := hrel
        by_cases hjl : j < G.length
        · obtain ⟨gh, ch, hag⟩ := HC.out.rg.form (by omega)
          cases hag
          have hr := (HC.out.below HB.out).rg.range (fun x hx => (HG1.out.gels x hx).2) j hjl
          obtain ⟨b, hb⟩ : ∃ b, b = G.getD j [] := ⟨_, rfl⟩
          have hEb : El b := by rw [hb]; exact HG1.out.gels _ (getD_mem hjl)
          rw [← hb] at hr
          have HR := Lib.hid hr
          have HBB := Lib.hid hb
          have HE := Lib.hid hEb
          have HR0 := Lib.hid (Blk.new wr 78 #[.int .u8 0, .int .u8 0, .int .u8 0, .int .u8 0, .int .u8 0, .int .u8 0, .int .u8 0])
          have HRX := Lib.hid (Blk.setRow HR0.out (u8s b))
          have HBX := Lib.hid (below_row ((Below.refl wr.heap.size wr).alloc (Nat.le_refl _) (.cells #[.int .u8 0, .int .u8 0, .int .u8 0, .int .u8 0, .int .u8 0, .int .u8 0, .int .u8 0] 78)) wr.heap.size (u8s b) (Nat.le_refl _))
          have HQX := Lib.hid (HQ.out.below HBX.out)
          have HKX := Lib.hid ((HK.out.below HB.out).below HBX.out)
          have HBY := Lib.hid (HB.out.trans (HBX.out.mono HB.out.size))
          clear hb hr hEb
          go_wp2_with (first | (refine wpList_load_mid rfl 78 _ rfl gh (j * 7) rfl (b.map (Value.int .u8)) _ HR.out Try.underlying78 rfl (info7 HE.out) ?_) | (refine wpList_store_row rfl 78 _ _ rfl wr.heap.size (u8s b) rfl rfl 78 #[.int .u8 0, .int .u8 0, .int .u8 0, .int .u8 0, .int .u8 0, .int .u8 0, .int .u8 0] HR0.out (infoElem' HE.out.2) (by rw [size_u8s, HE.out.2]; rfl) (u8s_one b) ?_))
          generalize (wr.alloc (.cells #[.int .u8 0, .int .u8 0, .int .u8 0, .int .u8 0, .int .u8 0, .int .u8 0, .int .u8 0] 78)).setRow wr.heap.size (u8s b) = W at *
          obtain ⟨M, hm, _, hM⟩ := HKX.out.set
          obtain ⟨z, hz⟩ : ∃ z, z = decide (conjL a b ∈ M) := ⟨_, rfl⟩
          have HM := Lib.hid hm
          have HMM := Lib.hid hM
          have HZ := Lib.hid hz
          have HEC := Lib.hid (HEA.out.conj HE.out)
          have HCj := Lib.hid (cjTo_eq HEA.out HE.out)
          clear hm hM hz HR HR0 HBX HB
          simp [Act.put]
          refine wp_region_held_all (S := fun w' => Below W.heap.size W w') (by kernel_rfl) ?_
          have hS : Below W.heap.size W W.drew := below_drewN' (Below.refl _ _) 1
          refine held_take (i := 0) (v := .pointer (some ⟨c2, 0, none⟩)) rfl rfl (by kernel_rfl) (by kernel_rfl) (by kernel_rfl) (fun w' h => by go_simp) hS ?_
          refine held_take (i := 1) (v := .pointer (some ⟨c2, 0, none⟩)) rfl rfl (by kernel_rfl) (by kernel_rfl) (by kernel_rfl) (fun w' h => by go_simp) hS ?_
          refine held_take (i := 2) (v := .pointer (some ⟨c2, 3, none⟩)) rfl rfl (by kernel_rfl) (by kernel_rfl) (by kernel_rfl) (fun w' h => by go_simp) hS ?_
          refine held_take (i := 3) (v := .map (some m2)) rfl rfl (by kernel_rfl) (by kernel_rfl) (by kernel_rfl) (fun w' h => by have h1 := (HKX.out.cells.below h).cell 3; go_simp) hS ?_
          refine held_take (i := 4) (v := .agg (u8s a)) rfl rfl (by kernel_rfl) (by kernel_rfl) (by kernel_rfl) (fun w' h => run_row_op 78 _ rfl wo.heap.size rfl 78 (u8s a) (0, 0) _ (HQX.out.below h) Try.underlying78 rfl (infoElem' HEA.out.2)) hS ?_
          refine held_take (i := 5) (v := .agg (u8s b)) rfl rfl (by kernel_rfl) (by kernel_rfl) (by kernel_rfl) (fun w' h => run_row_op 78 _ rfl wr.heap.size rfl 78 (u8s b) (0, 0) _ (HRX.out.below h) Try.underlying78 rfl (infoElem' HE.out.2)) hS ?_
          simp [Act.put]
          refine held_only (i := 6) rfl rfl (by kernel_rfl) (wp_call_any 82 Try.func82 (by kernel_rfl) rfl _ _ rfl #[.agg (u8s a), .agg (u8s b)] rfl ((conj_el a b W.drew HEA.out.e7 HE.out.e7).mono ?_))
          rintro e w5 ⟨rfl, hb5⟩
          have hS5 : Below W.heap.size W w5 := hS.trans (hb5.mono hS.size)
          refine ⟨_, rfl, hS5, ?_⟩
          rw [HCj.out]
          clear hb5
          simp [Act.put]
          refine held_take (i := 7) (v := .bool z) rfl rfl (by kernel_rfl) (by kernel_rfl) (by kernel_rfl) (fun w' h => by rw [HZ.out]; exact run_look_op _ _ rfl m2 M rfl (HM.out.below h) (conjL a b) rfl HEC.out.e7) hS5 ?_
          refine held_take (i := 8) (v := .bool (!z)) rfl rfl (by kernel_rfl) (by kernel_rfl) (by kernel_rfl) (fun w' h => by go_simp) hS5 ?_
          refine held_done (by kernel_rfl) ?_
          have HB2 := Lib.hid (HBY.out.trans (hS5.mono HBY.out.size))
          have HQ2 := Lib.hid (HQX.out.below hS5)
          clear hS hS5
          simp [Act.put]
          cases z with
          | true =>
            have HU2 := Lib.hid (show ∀ i, i < j + 1 → conjL a (G.getD i []) ∈ L2 from fun i hi => by
              by_cases e : i = j
              · subst e; rw [← HBB.out]; exact (HMM.out _).1 (of_decide_eq_true HZ.out.symm)
              · exact HU.out i (by omega))
            go_wp2_with fail
            go_roundw
            case rel => exact ⟨j + 1, by go_num, by omega, HU2, HB2, HQ2⟩
            case measure => simp [intOf]; omega
          | false =>
            have HS := Lib.hid (show Says false (∀ g ∈ G2, ∀ y ∈ G, conjL g y ∈ L2) from Says.no fun hp => of_decide_eq_false HZ.out.symm ((HMM.out _).2 (by rw [HA.out, HBB.out]; exact hp _ (getD_mem hlt) _ (getD_mem hjl))))
            go_wp2_with fail
            go_ret
            exact ⟨false, rfl, HS.out, HB2.out⟩
        · have HT2 := Lib.hid (show ∀ i, i < k + 1 → ∀ j, j < G.length → conjL (G2.getD i []) (G.getD j []) ∈ L2 from fun i hi j' hj' => by
            by_cases e : i = k
            · subst e; rw [← HA.out]; exact HU.out j' (by omega)
            · exact HT.out i (by omega) j' hj')
          go_wp2_with fail
          go_roundw
          case rel => exact ⟨k + 1, by go_num, by omega, HT2, HB⟩
          case measure => simp [intOf]; omega
    · have HS := Lib.hid (show Says true (∀ g ∈ G2, ∀ y ∈ G, conjL g y ∈ L2) from Says.yes fun g hg y hy => by
        obtain ⟨i, hi, rfl⟩ := List.getElem_of_mem hg
        obtain ⟨j, hj, rfl⟩ := List.getElem_of_mem hy
        have := HT.out i (by omega) j hj
        simpa [hi, hj] using this)
      go_wp2_with fail
      go_ret
      exact ⟨true, rfl, HS.out, HB.out⟩
end Go.Proofs.Ytdcilefiacohnaa
namespace Go.Proofs.Ytdcilefiacohnaa
open Go Go.RowKit

section
variable {P : Program} {ops : Array Oper} {S : World → Prop} {T : Act → World → Prop}
theorem held_take_w {i : Nat} {oi : Oper} {v : Value} {fuel : Nat} {listed : Array Bool} {a : Act} {w : World} (hi : ops[i]? = some oi) (hg : Region.wanted oi (yielded ops a.tmps) = true)
    (hs : Region.noSelect ops = true) (hf : Region.free .any ops listed i = true) (hr : (Region.ready .any ops listed).contains i = true)
    (hy : ∀ w, S w → (execOp a.eval oi).run P w = .ok (.value v) w) (hS : S w)
    (h : wpAnyH P .any ops (Only T) S fuel (listed.setIfInBounds i true) (a.put oi.dst v) w) : wpAnyH P .any ops (Only T) S (fuel + 1) listed a w :=
  wpAnyH_take hi hs hf hr (fun _ _ _ h => by cases h.1) (.inl ⟨hg, hy⟩) hS h
theorem held_skip {i : Nat} {oi : Oper} {fuel : Nat} {listed : Array Bool} {a : Act} {w : World} (hi : ops[i]? = some oi) (hg : Region.wanted oi (yielded ops a.tmps) = false)
    (hs : Region.noSelect ops = true) (hf : Region.free .any ops listed i = true) (hr : (Region.ready .any ops listed).contains i = true) (hS : S w)
    (h : wpAnyH P .any ops (Only T) S fuel (listed.setIfInBounds i true) (a.put oi.dst undef) w) : wpAnyH P .any ops (Only T) S (fuel + 1) listed a w :=
  wpAnyH_take hi hs hf hr (fun _ _ _ h => by cases h.1) (.inr ⟨hg, rfl⟩) hS h
theorem held_only_w {i : Nat} {oi : Oper} {fuel : Nat} {listed : Array Bool} {a : Act} {w : World} (hi : ops[i]? = some oi) (hg : Region.wanted oi (yielded ops a.tmps) = true) (hr : Region.ready .any ops listed = [i])
    (h : oi.wp P a w (fun a' w' => S w' ∧ wpAnyH P .any ops (Only T) S fuel (listed.setIfInBounds i true) a' w') (Only T)) : wpAnyH P .any ops (Only T) S (fuel + 1) listed a w := by
  refine wpAnyH_all hr (by simp) (fun j hj => ?_)
  have e : j = i := by simpa using hj
  subst e
  unfold wpOp
  simp only [hi, hg, if_true]
  exact .inl h
end

/-- sub is closed under conjugation with elements of the group -/
def NormP (ps qs : List (List Int)) : Prop := ∀ a ∈ pks qs, ∀ b ∈ pks ps, conjL a b ∈ pks qs
theorem sub_iff {ps qs G L G2 L2 : List (List Int)} (hp : IsGrp ps) (hq : IsGrp qs) (g : Grp G L) (g2 : Grp G2 L2) (h : ∀ a, a ∈ L ↔ Gen (pks ps) a) (h2 : ∀ a, a ∈ L2 ↔ Gen (pks qs) a) : (∀ x ∈ G2, x ∈ L) ↔ ∀ a ∈ pks qs, a ∈ pks ps := by
  constructor
  · intro hs a ha
    have h3 := (h2 a).2 (Gen.of_mem hq.1.els ha)
    have h4 := (g2.mem a).1 h3
    have h5 : Gen G a := Gen.sub g.gels (fun x hx => (g.mem x).1 (hs x hx)) h4
    exact hp.2.2 a ((h a).1 ((g.mem a).2 h5))
  · intro hs x hx
    have h3 := hq.2.2 x ((h2 x).1 (g2.sub x hx))
    exact (h x).2 (Gen.of_mem hp.1.els (hs x h3))
theorem norm_iff {ps qs G L G2 L2 : List (List Int)} (hp : IsGrp ps) (hq : IsGrp qs) (g : Grp G L) (g2 : Grp G2 L2) (h : ∀ a, a ∈ L ↔ Gen (pks ps) a) (h2 : ∀ a, a ∈ L2 ↔ Gen (pks qs) a) : (∀ x ∈ G2, ∀ y ∈ G, conjL x y ∈ L2) ↔ NormP ps qs := by
  constructor
  · intro hs a ha b hb
    have h3 := (g2.mem a).1 ((h2 a).2 (Gen.of_mem hq.1.els ha))
    have h4 := (g.mem b).1 ((h b).2 (Gen.of_mem hp.1.els hb))
    have h5 := normal_all g2.gels g.gels (fun d hd y hy => (g2.mem _).1 (hs d hd y hy)) h3 h4
    exact hq.2.2 _ ((h2 _).1 ((g2.mem _).2 h5))
  · intro hs x hx y hy
    have h3 := hq.2.2 x ((h2 x).1 (g2.sub x hx))
    have h4 := hp.2.2 y ((h y).1 (g.sub y hy))
    exact (h2 _).2 (Gen.of_mem hq.1.els (hs x h3 y h4))

set_option maxRecDepth 100000 in
set_option maxHeartbeats 4000000 in
theorem Normal_ok (u v : Value) (ps qs : List (List Int)) (w : World) (h : Sps w u ps) (k : Sps w v qs) (hp : IsGrp ps) (hq : IsGrp qs) :
    Calls Try.prog 24 #[u, v] w fun e w' => Below w.heap.size w w' ∧ ((((ps.getD 0 []).length ≠ (qs.getD 0 []).length ∨ ¬ ∀ a ∈ pks qs, a ∈ pks ps) ∧ e = .returned (.tuple #[.bool false, .int .i64 2])) ∨ ((ps.getD 0 []).length = (qs.getD 0 []).length ∧ (∀ a ∈ pks qs, a ∈ pks ps) ∧ ∃ r, e = .returned (.tuple #[.bool r, .int .i64 0]) ∧ Says r (NormP ps qs))) := by
  have HH := Lib.hid h
  have HK := Lib.hid k
  have HP := Lib.hid hp
  have HQ := Lib.hid hq
  obtain ⟨a, cap, rfl, _⟩ := h
  obtain ⟨b, cap2, rfl, _⟩ := k
  obtain ⟨l, hl⟩ : ∃ l, l = ps.length := ⟨_, rfl⟩
  obtain ⟨l2, hl2⟩ : ∃ l2, l2 = qs.length := ⟨_, rfl⟩
  rw [← hl] at HH ⊢
  rw [← hl2] at HK ⊢
  obtain ⟨n, hn⟩ : ∃ n, n = (ps.getD 0 []).length := ⟨_, rfl⟩
  obtain ⟨n2, hn2⟩ : ∃ n2, n2 = (qs.getD 0 []).length := ⟨_, rfl⟩
  have HN := Lib.hid hn
  have HN2 := Lib.hid hn2
  rw [← hn, ← hn2]
  have h7 : n ≤ 7 := by rw [hn]; exact hp.seven
  have h72 : n2 ≤ 7 := by rw [hn2]; exact hq.seven
  clear hp hq hl hl2 hn hn2
  go_enter Try.func24, Try.ntmps24
  go_wp2_with fail
  refine (closedOf_any _ ps _ HH.out HP.out.small).mono ?_
  rintro e w1 ⟨hb1, hcase⟩
  obtain ⟨_, c, m, vg, vl, G, L, rfl, ho, hm⟩ := hcase.resolve_left (fun h => h.1 HP.out)
  rw [← HN.out] at ho
  have HO := Lib.hid ho
  have HM := Lib.hid hm
  have HB1 := Lib.hid hb1
  have HK1 := Lib.hid (HK.out.below hb1)
  clear ho hm hb1 hcase
  go_wp2_with fail
  refine (closedOf_any _ qs _ HK1.out HQ.out.small).mono ?_
  rintro e w2 ⟨hb2, hcase⟩
  obtain ⟨_, c2, m2, vg2, vl2, G2, L2, rfl, ho2, hm2⟩ := hcase.resolve_left (fun h => h.1 HQ.out)
  rw [← HN2.out] at ho2
  have HO2 := Lib.hid ho2
  have HM2 := Lib.hid hm2
  have HC := Lib.hid (HO.out.clo.below hb2)
  have HB2 := Lib.hid (HB1.out.trans (hb2.mono HB1.out.size))
  have HSub := Lib.hid (sub_iff HP.out HQ.out HO.out.grp HO2.out.grp HM.out HM2.out)
  have HNorm := Lib.hid (norm_iff HP.out HQ.out HO.out.grp HO2.out.grp HM.out HM2.out)
  clear ho2 hm2 hb2 hcase
  obtain ⟨z, hz⟩ : ∃ z, z = decide (n ≠ n2) := ⟨_, rfl⟩
  have hz1 : ((n : Int) != (n2 : Int)) = z := by
    rw [hz]
    by_cases e : n = n2
    · subst e; simp
    · rw [decide_eq_true e]; exact bne_iff_ne.2 (by omega)
  have HZ := Lib.hid hz
  clear hz
  go_wp2_with fail
  refine wp_region_held_all (S := fun w' => Below w2.heap.size w2 w') (by kernel_rfl) ?_
  have hS : Below w2.heap.size w2 w2.drew := below_drewN' (Below.refl _ _) 1
  refine held_take (i := 0) (v := .pointer (some ⟨c, 0, none⟩)) rfl rfl (by kernel_rfl) (by kernel_rfl) (by kernel_rfl) (fun w' h => by go_simp) hS ?_
  refine held_take (i := 1) (v := .pointer (some ⟨c, 0, none⟩)) rfl rfl (by kernel_rfl) (by kernel_rfl) (by kernel_rfl) (fun w' h => by go_simp) hS ?_
  refine held_take (i := 2) (v := .pointer (some ⟨c, 0, none⟩)) rfl rfl (by kernel_rfl) (by kernel_rfl) (by kernel_rfl) (fun w' h => by go_simp) hS ?_
  refine held_take (i := 3) (v := .int .i64 n) rfl rfl (by kernel_rfl) (by kernel_rfl) (by kernel_rfl) (fun w' h => by have h1 := (HC.out.cells.below h).cell 0; go_simp) hS ?_
  simp [Act.put]
  refine held_take (i := 4) (v := .pointer (some ⟨c2, 0, none⟩)) rfl rfl (by kernel_rfl) (by kernel_rfl) (by kernel_rfl) (fun w' h => by go_simp) hS ?_
  refine held_take (i := 5) (v := .pointer (some ⟨c2, 0, none⟩)) rfl rfl (by kernel_rfl) (by kernel_rfl) (by kernel_rfl) (fun w' h => by go_simp) hS ?_
  refine held_take (i := 6) (v := .pointer (some ⟨c2, 0, none⟩)) rfl rfl (by kernel_rfl) (by kernel_rfl) (by kernel_rfl) (fun w' h => by go_simp) hS ?_
  refine held_take (i := 7) (v := .int .i64 n2) rfl rfl (by kernel_rfl) (by kernel_rfl) (by kernel_rfl) (fun w' h => by have h1 := (HO2.out.clo.cells.below h).cell 0; go_simp) hS ?_
  simp [Act.put]
  refine held_take (i := 8) (v := .bool z) rfl rfl (by kernel_rfl) (by kernel_rfl) (by kernel_rfl) (fun w' h => by go_simp) hS ?_
  refine held_take (i := 9) (v := .bool z) rfl rfl (by kernel_rfl) (by kernel_rfl) (by kernel_rfl) (fun w' h => by go_simp) hS ?_
  simp [Act.put]
  cases z with
  | true =>
    refine held_skip (i := 10) rfl (by kernel_rfl) (by kernel_rfl) (by kernel_rfl) (by kernel_rfl) hS ?_
    refine held_skip (i := 11) rfl (by kernel_rfl) (by kernel_rfl) (by kernel_rfl) (by kernel_rfl) hS ?_
    refine held_skip (i := 12) rfl (by kernel_rfl) (by kernel_rfl) (by kernel_rfl) (by kernel_rfl) hS ?_
    refine held_skip (i := 13) rfl (by kernel_rfl) (by kernel_rfl) (by kernel_rfl) (by kernel_rfl) hS ?_
    simp [Act.put]
    refine held_take (i := 14) (v := .bool true) rfl rfl (by kernel_rfl) (by kernel_rfl) (by kernel_rfl) (fun w' h => by go_simp) hS ?_
    refine held_done (by kernel_rfl) ?_
    have HB3 := Lib.hid (HB2.out.trans (hS.mono HB2.out.size))
    clear hS
    simp [Act.put]
    go_wp2_with fail
    go_ret2
    exact ⟨HB3.out, .inl ⟨.inl (of_decide_eq_true HZ.out.symm), rfl⟩⟩
  | false =>
    refine held_take_w (i := 10) (v := .pointer (some ⟨c, 0, none⟩)) rfl (by kernel_rfl) (by kernel_rfl) (by kernel_rfl) (by kernel_rfl) (fun w' h => by go_simp) hS ?_
    refine held_take_w (i := 11) (v := .pointer (some ⟨c2, 0, none⟩)) rfl (by kernel_rfl) (by kernel_rfl) (by kernel_rfl) (by kernel_rfl) (fun w' h => by go_simp) hS ?_
    simp [Act.put]
    refine held_only_w (i := 12) rfl (by kernel_rfl) (by kernel_rfl) (wp_call_any 60 Try.func60 (by kernel_rfl) rfl _ _ rfl #[.pointer (some ⟨c, 0, none⟩), .pointer (some ⟨c2, 0, none⟩)] rfl ((contains_any (HC.out.below hS) (HO2.out.clo.below hS) HO2.out.grp).mono ?_))
    rintro e w3 ⟨r, rfl, hr, hb3⟩
    have hS3 : Below w2.heap.size w2 w3 := hS.trans (hb3.mono hS.size)
    refine ⟨_, rfl, hS3, ?_⟩
    have HR := Lib.hid hr
    clear hr hb3
    simp [Act.put]
    refine held_take_w (i := 13) (v := .bool (!r)) rfl (by kernel_rfl) (by kernel_rfl) (by kernel_rfl) (by kernel_rfl) (fun w' h => by go_simp) hS3 ?_
    refine held_take (i := 14) (v := .bool (!r)) rfl rfl (by kernel_rfl) (by kernel_rfl) (by kernel_rfl) (fun w' h => by go_simp) hS3 ?_
    refine held_done (by kernel_rfl) ?_
    have HB3 := Lib.hid (HB2.out.trans (hS3.mono HB2.out.size))
    have HS3 := Lib.hid hS3
    clear hS hS3
    simp [Act.put]
    cases r with
    | false =>
      go_wp2_with fail
      go_ret2
      exact ⟨HB3.out, .inl ⟨.inr (fun h => by have := HR.out.2 (HSub.out.2 h); cases this), rfl⟩⟩
    | true =>
      go_wp2_with fail
      refine (normal_any (HC.out.below HS3.out) HO.out.grp (HO2.out.clo.below HS3.out) HO2.out.grp).mono ?_
      rintro e w4 ⟨r, rfl, hr, hb4⟩
      have HR4 := Lib.hid hr
      have HB4 := Lib.hid (HB3.out.trans (hb4.mono HB3.out.size))
      clear hr hb4
      go_wp2_with fail
      go_ret2
      exact ⟨HB4.out, .inr ⟨by have := of_decide_eq_false HZ.out.symm; omega, HSub.out.1 (HR.out.1 rfl), r, rfl, ⟨fun h => HNorm.out.1 (HR4.out.1 h), fun h => HR4.out.2 (HNorm.out.2 h)⟩⟩⟩
end Go.Proofs.Ytdcilefiacohnaa
namespace Go.Proofs.Ytdcilefiacohnaa
open Go Go.RowKit

set_option maxRecDepth 100000 in
set_option maxHeartbeats 2000000 in
theorem refIn_any (u v : Value) (ps : List (List Int)) (p : List Int) (w : World) (h : Sps w u ps) (k : Sl w v p) (hx : ∀ i, i < ps.length → (ps.getD i []).length ≤ 1000000) (hp : p.length ≤ 1000000) (hl : ps.length ≤ 1000000) :
    Calls Try.prog 37 #[u, v] w fun e w' => ∃ r, e = .returned (.bool r) ∧ Says r (p ∈ ps) ∧ Below w.heap.size w w' := by
  have HK := Lib.hid k
  have HX := Lib.hid hx
  obtain ⟨a, cap, rfl, h⟩ := h
  obtain ⟨va, vc, rfl, _⟩ := k
  obtain ⟨n, hn⟩ : ∃ n, n = ps.length := ⟨_, rfl⟩
  obtain ⟨q, hq⟩ : ∃ q, q = p.length := ⟨_, rfl⟩
  have HN := Lib.hid hn
  rw [← hn] at hl ⊢
  rw [← hq] at HK ⊢
  have HC := Lib.hid h
  have HP := Lib.hid hp
  clear h hx hn hq hp
  go_enter Try.func37, Try.ntmps37
  go_wp2_with fail
  go_loopw [5] (fun i wr => ∃ k : Nat, i = .int .i64 k ∧ k ≤ n ∧ Hid (∀ i, i < k → ps.getD i [] ≠ p) ∧ Hid (Below w.heap.size w wr)) (fun i _ => n - (intOf i).toNat)
  case atStart => exact ⟨0, rfl, Nat.zero_le _, Lib.hid (fun i hi => by omega), Lib.hid (Below.refl _ _)⟩
  case round =>
    obtain ⟨k, rfl, hk, HT, HB⟩ := hrel
    by_cases hlt : k < n
    · rcases HC.out with h | ⟨b, off, rfl, h⟩
      · have := HN.out; rw [h] at this; simp at this; omega
      obtain ⟨x, g0, s0⟩ := h k (by rw [← HN.out]; exact hlt)
      have g1 : wr.cell? ⟨b, off + k, none⟩ = some x := (HB.out.cell (p := ⟨b, off + k, none⟩) (World.block_lt_of_cell? w _ g0)).trans g0
      obtain ⟨z, hz⟩ : ∃ z, z = decide (ps.getD k [] = p) := ⟨_, rfl⟩
      have HCall := Lib.hid (show Calls Try.prog 42 #[x, .slice va q vc] wr fun e w' => e = .returned (.bool z) ∧ Below wr.heap.size wr w' from by
        rw [hz]
        exact (same_any _ _ _ _ _ (s0.below HB.out) (HK.out.below HB.out) (HX.out k (by rw [← HN.out]; exact hlt)) HP.out).mono fun e w' ⟨he, i, hi⟩ => ⟨he, by rw [hi]; exact below_drewN' (Below.refl _ _) i⟩)
      have HZ := Lib.hid hz
      obtain ⟨xa, xc, rfl, _⟩ := s0
      obtain ⟨l, hl0⟩ : ∃ l, l = (ps.getD k []).length := ⟨_, rfl⟩
      rw [← hl0] at g1 HCall
      clear h g0 hz hl0
      cases z with
      | true =>
        have HS := Lib.hid (show Says true (p ∈ ps) from Says.yes (by rw [← of_decide_eq_true HZ.out.symm]; simp [show k < ps.length by rw [← HN.out]; exact hlt]))
        go_wp2_with fail
        refine HCall.out.mono ?_
        rintro e w2 ⟨rfl, hb⟩
        have HB2 := Lib.hid (HB.out.trans (hb.mono HB.out.size))
        clear hb
        go_wp2_with fail
        go_ret
        exact ⟨true, rfl, HS.out, HB2.out⟩
      | false =>
        have HT2 := Lib.hid (show ∀ i, i < k + 1 → ps.getD i [] ≠ p from fun i hi => by
          by_cases e : i = k
          · subst e; exact of_decide_eq_false HZ.out.symm
          · exact HT.out i (by omega))
        go_wp2_with fail
        refine HCall.out.mono ?_
        rintro e w2 ⟨rfl, hb⟩
        have HB2 := Lib.hid (HB.out.trans (hb.mono HB.out.size))
        clear hb
        go_wp2_with fail
        go_roundw
        case rel => exact ⟨k + 1, by go_num, by omega, HT2, HB2⟩
        case measure => simp [intOf]; omega
    · have HS := Lib.hid (show Says false (p ∈ ps) from Says.no fun hm => by
        obtain ⟨i, hi, rfl⟩ := List.getElem_of_mem hm
        exact HT.out i (by rw [← HN.out] at hi; omega) (by simp [hi]))
      go_wp2_with fail
      go_ret
      exact ⟨false, rfl, HS.out, HB.out⟩

set_option maxRecDepth 100000 in
set_option maxHeartbeats 2000000 in
theorem refWithin_any (u v : Value) (ps qs : List (List Int)) (w : World) (h : Sps w u ps) (k : Sps w v qs) (hp : IsGrp ps) (hq : IsGrp qs) :
    Calls Try.prog 32 #[u, v] w fun e w' => ∃ r, e = .returned (.bool r) ∧ Says r (∀ q ∈ qs, q ∈ ps) ∧ Below w.heap.size w w' := by
  have HH := Lib.hid h
  obtain ⟨a, cap, rfl, h⟩ := h
  obtain ⟨a2, cap2, rfl, k⟩ := k
  obtain ⟨m, hm⟩ : ∃ m, m = ps.length := ⟨_, rfl⟩
  obtain ⟨n, hn⟩ : ∃ n, n = qs.length := ⟨_, rfl⟩
  have HN := Lib.hid hn
  have HM := Lib.hid hm
  have hn5 : n ≤ 5040 := by rw [hn]; exact hq.1.2.1
  have hn1 : 1 ≤ n := by rw [hn]; exact hq.1.1
  have hm1 : 1 ≤ m := by rw [hm]; exact hp.1.1
  have hm5 : m ≤ 5040 := by rw [hm]; exact hp.1.2.1
  have HP := Lib.hid hp
  have HQ := Lib.hid hq
  rw [← hm] at HH ⊢
  rw [← hn]
  rcases k with k | ⟨b, off, rfl, k⟩
  · rw [k] at hn; simp at hn; omega
  rcases h with h | ⟨b0, off0, rfl, h⟩
  · rw [h] at hm; simp at hm; omega
  have HC := Lib.hid k
  obtain ⟨x0, y0, s0⟩ := h 0 (by omega)
  obtain ⟨x1, y1, s1⟩ := k 0 (by omega)
  rw [Nat.add_zero] at y0 y1
  have hb0 : b0 < w.heap.size := World.block_lt_of_cell? w _ y0
  have hb1 : b < w.heap.size := World.block_lt_of_cell? w _ y1
  obtain ⟨xa0, xc0, rfl, _⟩ := s0
  obtain ⟨xa1, xc1, rfl, _⟩ := s1
  obtain ⟨l0, hl0⟩ : ∃ l0, l0 = (ps.getD 0 []).length := ⟨_, rfl⟩
  obtain ⟨l1, hl1⟩ : ∃ l1, l1 = (qs.getD 0 []).length := ⟨_, rfl⟩
  rw [← hl0] at y0
  rw [← hl1] at y1
  have HL0 := Lib.hid hl0
  have HL1 := Lib.hid hl1
  have Y0 := Lib.hid y0
  have Y1 := Lib.hid y1
  clear h k hp hq hm hn hl0 hl1 y0 y1
  go_enter Try.func32, Try.ntmps32
  go_wp2_with fail
  go_loopw [5] (fun i wr => ∃ k : Nat, i = .int .i64 k ∧ k ≤ n ∧ Hid (∀ i, i < k → qs.getD i [] ∈ ps) ∧ Hid (Below w.heap.size w wr)) (fun i _ => n - (intOf i).toNat)
  case atStart => exact ⟨0, rfl, Nat.zero_le _, Lib.hid (fun i hi => by omega), Lib.hid (Below.refl _ _)⟩
  case round =>
    obtain ⟨k, rfl, hk, HT, HB⟩ := hrel
    by_cases hlt : k < n
    · obtain ⟨x, g0, s0⟩ := HC.out k (by rw [← HN.out]; exact hlt)
      have g1 : wr.cell? ⟨b, off + k, none⟩ = some x := (HB.out.cell (p := ⟨b, off + k, none⟩) hb1).trans g0
      have HCall := Lib.hid (refIn_any _ _ ps (qs.getD k []) wr (HH.out.below HB.out) (s0.below HB.out) HP.out.small (HQ.out.small k (by rw [← HN.out]; exact hlt)) (by rw [← HM.out]; omega))
      obtain ⟨xa, xc, rfl, _⟩ := s0
      obtain ⟨l, hl⟩ : ∃ l, l = (qs.getD k []).length := ⟨_, rfl⟩
      rw [← hl] at g1 HCall
      clear g0 hl
      go_wp2_with fail
      refine HCall.out.mono ?_
      rintro e w2 ⟨r, rfl, hr, hb⟩
      have HR := Lib.hid hr
      have HB2 := Lib.hid (HB.out.trans (hb.mono HB.out.size))
      clear hb hr
      cases r with
      | true =>
        have HT2 := Lib.hid (show ∀ i, i < k + 1 → qs.getD i [] ∈ ps from fun i hi => by
          by_cases e : i = k
          · subst e; exact HR.out.1 rfl
          · exact HT.out i (by omega))
        go_wp2_with fail
        go_roundw
        case rel => exact ⟨k + 1, by go_num, by omega, HT2, HB2⟩
        case measure => simp [intOf]; omega
      | false =>
        have HS := Lib.hid (show Says false (∀ q ∈ qs, q ∈ ps) from Says.no fun hm => by
          have := HR.out.2 (hm _ (by simp [show k < qs.length by rw [← HN.out]; exact hlt]))
          cases this)
        go_wp2_with fail
        go_ret
        exact ⟨false, rfl, HS.out, HB2.out⟩
    · have HA := Lib.hid (show ∀ q ∈ qs, q ∈ ps from fun q hq => by
        obtain ⟨i, hi, rfl⟩ := List.getElem_of_mem hq
        have := HT.out i (by rw [← HN.out] at hi; omega)
        simpa [hi] using this)
      have hll : l0 = l1 := by
        have h0 : qs.getD 0 [] ∈ qs := by simp [show 0 < qs.length by rw [← HN.out]; omega]
        rw [HL0.out, HL1.out]; exact (HP.out.1.mem (HA.out _ h0)).2.symm
      have g0 : wr.cell? ⟨b0, off0, none⟩ = some (.slice xa0 l0 xc0) := (HB.out.cell (p := ⟨b0, off0, none⟩) hb0).trans Y0.out
      have g1 : wr.cell? ⟨b, off, none⟩ = some (.slice xa1 l1 xc1) := (HB.out.cell (p := ⟨b, off, none⟩) hb1).trans Y1.out
      subst hll
      go_wp2_with fail
      go_quiet (fail)
      go_wp2_with fail
      go_ret
      exact ⟨true, rfl, Says.yes HA.out, below_drewN' HB.out nq⟩

/-- the conjugate of permutations, in the reference's order -/
def conjP (c s : List Int) : List Int := mulL (mulL (invL c) s) c
theorem conjP_valid {c s : List Int} (hc : validL c = true) (hs : validL s = true) (hl : c.length = s.length) : validL (conjP c s) = true ∧ (conjP c s).length = c.length := by
  unfold conjP
  exact ⟨mulL_valid (mulL_valid (invL_valid hc) hs (by rw [length_invL]; exact hl)) hc (by rw [length_mulL, length_invL]), by rw [length_mulL, length_mulL, length_invL]⟩
theorem pk7_conj {c s : List Int} (hc : validL c = true) (hs : validL s = true) (hl : c.length = s.length) : pk7 (conjP c s) = conjL (pk7 s) (pk7 c) := by
  unfold conjP conjL
  rw [pk7_mul (mulL_valid (invL_valid hc) hs (by rw [length_invL]; exact hl)) hc (by rw [length_mulL, length_invL]), pk7_mul (invL_valid hc) hs (by rw [length_invL]; exact hl), pk7_inv hc]

set_option maxHeartbeats 1000000 in
theorem refcj_any (u v : Value) (c s : List Int) (w : World) (h : Sl w u c) (k : Sl w v s) (hc : validL c = true) (hs : validL s = true) (hl : c.length = s.length) :
    Calls Try.prog 72 #[u, v] w fun e w' => ∃ x, e = .returned x ∧ Ow w.heap.size w' x (conjP c s) ∧ Below w.heap.size w w' := by
  have HH := Lib.hid h
  have HK := Lib.hid k
  have HV := Lib.hid hc
  have HW := Lib.hid hs
  have h7 := ((validL_iff _).1 hc).2.1
  obtain ⟨a, ca, rfl, _⟩ := h
  obtain ⟨b, cb, rfl, _⟩ := k
  obtain ⟨n, hn⟩ : ∃ n, n = c.length := ⟨_, rfl⟩
  have HN := Lib.hid hn
  have HL := Lib.hid hl
  rw [← hl, ← hn] at HK
  rw [← hn] at HH h7
  rw [← hl, ← hn]
  clear hc hs hl hn
  go_enter Try.func72, Try.ntmps72
  go_wp2_with fail
  refine (refinv_any _ c _ HH.out (by rw [← HN.out]; omega) (inR_of_valid HV.out)).mono ?_
  rintro e w1 ⟨x, rfl, hx, hb1⟩
  have HX := Lib.hid hx.sl
  have HB1 := Lib.hid hb1
  have HH1 := Lib.hid (HH.out.below hb1)
  have HK1 := Lib.hid (HK.out.below hb1)
  obtain ⟨xa, xc, e1, _⟩ := hx.sl
  rw [length_invL, ← HN.out] at e1
  subst e1
  clear hx hb1
  go_wp2_with fail
  refine (refmul_any _ _ (invL c) s _ HX.out HK1.out (by rw [length_invL, ← HN.out]; omega) (by rw [← HL.out, ← HN.out]; omega) (by have := inR_of_valid (invL_valid HV.out); rwa [length_invL, HL.out] at this)).mono ?_
  rintro e w2 ⟨y, rfl, hy, hb2⟩
  have HY := Lib.hid hy.sl
  have HB2 := Lib.hid (HB1.out.trans (hb2.mono HB1.out.size))
  have HH2 := Lib.hid (HH1.out.below hb2)
  obtain ⟨ya, yc, e1, _⟩ := hy.sl
  rw [length_mulL, length_invL, ← HN.out] at e1
  subst e1
  have hv2 := mulL_valid (invL_valid HV.out) HW.out (by rw [length_invL]; exact HL.out)
  have HV2 := Lib.hid hv2
  clear hy hb2 hv2
  go_wp2_with fail
  refine (refmul_any _ _ (mulL (invL c) s) c _ HY.out HH2.out (by rw [length_mulL, length_invL, ← HN.out]; omega) (by rw [← HN.out]; omega) (by have := inR_of_valid HV2.out; rwa [length_mulL, length_invL] at this)).mono ?_
  rintro e w3 ⟨z, rfl, hz, hb3⟩
  have HZ := Lib.hid (hz.mono HB2.out.size)
  have HB3 := Lib.hid (HB2.out.trans (hb3.mono HB2.out.size))
  clear hz hb3
  go_wp2_with fail
  go_ret
  exact ⟨_, rfl, HZ.out, HB3.out⟩
end Go.Proofs.Ytdcilefiacohnaa
