/- (*closed).contains, (*closed).normal, (*closed).central. | group.Normal. | The reference's In, Within, conjugate and Normal. | Elements compared. | (*closed).central and group.Center. | The reference's Center. -/
import Derived.Test.YtjnjhfificpbbaaREFG
namespace Go.Proofs.Ytjnjhfificpbbaa
open Go Go.RowKit

/-- an element that is read out of a row into a new block: the block, afterwards -/
theorem zero7 : (#[.int .u8 0, .int .u8 0, .int .u8 0, .int .u8 0, .int .u8 0, .int .u8 0, .int .u8 0] : Array Value) = u8s (List.replicate 7 0) := rfl
theorem info7 {b : List Int} (h : El b) : (Try.prog.info? 78).map (·.size) = some (b.map (Value.int .u8)).length := by rw [List.length_map, h.2]; exact infoElem

set_option maxRecDepth 100000 in
set_option maxHeartbeats 4000000 in
theorem contains_any {B B2 c m c2 m2 : Nat} {n n2 : Int} {vg vl vg2 vl2 : Value} {G L G2 L2 : List (List Int)} {w : World} (h : Clo B w c m n vg vl G L) (k : Clo B2 w c2 m2 n2 vg2 vl2 G2 L2) (g2 : Grp G2 L2) :
    Calls Try.prog 60 #[.pointer (some ⟨c, 0, none⟩), .pointer (some ⟨c2, 0, none⟩)] w fun e w' => ∃ r, e = .returned (.bool r) ∧ Says r (∀ g ∈ G2, g ∈ L) ∧ Below w.heap.size w w' := by
  have HC := Lib.hid h
  have HK := Lib.hid k
  have HG := Lib.hid g2
  obtain ⟨ag, cg, rfl⟩ := k.rg.slice
  have h0 := k.cells.cell 1
  have hgl := g2.glen
  clear h k g2
  go_enter Try.func60, Try.ntmps60
  go_wp2_with fail
  go_loopw [12] (fun i wr => ∃ k : Nat, i = .int .i64 k ∧ k ≤ G2.length ∧ Hid (∀ i, i < k → G2.getD i [] ∈ L) ∧ Hid (Below w.heap.size w wr)) (fun i _ => G2.length - (intOf i).toNat)
  case atStart => exact ⟨0, rfl, Nat.zero_le _, Lib.hid (fun i hi => by omega), Lib.hid (Below.refl _ _)⟩
  case round =>
    clear h0
    obtain ⟨k, rfl, hk, HT, HB⟩ := hrel
    by_cases hlt : k < G2.length
    · obtain ⟨gg, cg', hag⟩ := HK.out.rg.form (by omega)
      cases hag
      have hr := (HK.out.below HB.out).rg.range (fun x hx => (HG.out.gels x hx).2) k hlt
      obtain ⟨b, hb⟩ : ∃ b, b = G2.getD k [] := ⟨_, rfl⟩
      have hEb : El b := by rw [hb]; exact HG.out.gels _ (getD_mem hlt)
      rw [← hb] at hr
      have HR := Lib.hid hr
      have HBB := Lib.hid hb
      have HE := Lib.hid hEb
      have HR0 := Lib.hid (Blk.new wr 78 #[.int .u8 0, .int .u8 0, .int .u8 0, .int .u8 0, .int .u8 0, .int .u8 0, .int .u8 0])
      have HRX := Lib.hid (Blk.setRow HR0.out (u8s b))
      have HBX := Lib.hid (below_row ((Below.refl wr.heap.size wr).alloc (Nat.le_refl _) (.cells #[.int .u8 0, .int .u8 0, .int .u8 0, .int .u8 0, .int .u8 0, .int .u8 0, .int .u8 0] 78)) wr.heap.size (u8s b) (Nat.le_refl _))
      have HCX := Lib.hid ((HC.out.below HB.out).below HBX.out)
      have HBY := Lib.hid (HB.out.trans (HBX.out.mono HB.out.size))
      clear hb hr hEb
      go_wp2_with (first | (refine wpList_load_mid rfl 78 _ rfl gg (k * 7) rfl (b.map (Value.int .u8)) _ HR.out Try.underlying78 rfl (info7 HE.out) ?_) | (refine wpList_store_row rfl 78 _ _ rfl wr.heap.size (u8s b) rfl rfl 78 #[.int .u8 0, .int .u8 0, .int .u8 0, .int .u8 0, .int .u8 0, .int .u8 0, .int .u8 0] HR0.out (infoElem' HE.out.2) (by rw [size_u8s, HE.out.2]; rfl) (u8s_one b) ?_))
      generalize (wr.alloc (.cells #[.int .u8 0, .int .u8 0, .int .u8 0, .int .u8 0, .int .u8 0, .int .u8 0, .int .u8 0] 78)).setRow wr.heap.size (u8s b) = W at *
      obtain ⟨M, hm, _, hM⟩ := HCX.out.set
      obtain ⟨z, hz⟩ : ∃ z, z = decide (b ∈ M) := ⟨_, rfl⟩
      have HM := Lib.hid hm
      have HMM := Lib.hid hM
      have HZ := Lib.hid hz
      clear hm hM hz HR HR0 HBX HB
      simp [Act.put]
      refine wp_region_held_all (S := fun w' => Below W.heap.size W w') (by kernel_rfl) ?_
      have hS : Below W.heap.size W W.drew := below_drewN' (Below.refl _ _) 1
      refine held_take (i := 0) (v := .pointer (some ⟨c, 0, none⟩)) rfl rfl (by kernel_rfl) (by kernel_rfl) (by kernel_rfl) (fun w' h => by go_simp) hS ?_
      refine held_take (i := 1) (v := .pointer (some ⟨c, 0, none⟩)) rfl rfl (by kernel_rfl) (by kernel_rfl) (by kernel_rfl) (fun w' h => by go_simp) hS ?_
      refine held_take (i := 2) (v := .pointer (some ⟨c, 3, none⟩)) rfl rfl (by kernel_rfl) (by kernel_rfl) (by kernel_rfl) (fun w' h => by go_simp) hS ?_
      refine held_take (i := 3) (v := .map (some m)) rfl rfl (by kernel_rfl) (by kernel_rfl) (by kernel_rfl) (fun w' h => by have h1 := (HCX.out.cells.below h).cell 3; go_simp) hS ?_
      refine held_take (i := 4) (v := .agg (u8s b)) rfl rfl (by kernel_rfl) (by kernel_rfl) (by kernel_rfl) (fun w' h => run_row_op 78 _ rfl wr.heap.size rfl 78 (u8s b) (0, 0) _ (HRX.out.below h) Try.underlying78 rfl (infoElem' HE.out.2)) hS ?_
      refine held_take (i := 5) (v := .bool z) rfl rfl (by kernel_rfl) (by kernel_rfl) (by kernel_rfl) (fun w' h => by rw [HZ.out]; exact run_look_op _ _ rfl m M rfl (HM.out.below h) b rfl HE.out.e7) hS ?_
      refine held_take (i := 6) (v := .bool (!z)) rfl rfl (by kernel_rfl) (by kernel_rfl) (by kernel_rfl) (fun w' h => by go_simp) hS ?_
      refine held_done (by kernel_rfl) ?_
      have HB2 := Lib.hid (HBY.out.trans (hS.mono HBY.out.size))
      clear hS
      simp [Act.put]
      generalize W.drew = W2 at *
      cases z with
      | true =>
        have HT2 := Lib.hid (show ∀ i, i < k + 1 → G2.getD i [] ∈ L from fun i hi => by
          by_cases e : i = k
          · subst e; rw [← HBB.out]; exact (HMM.out b).1 (of_decide_eq_true HZ.out.symm)
          · exact HT.out i (by omega))
        go_wp2_with fail
        go_roundw
        case rel => exact ⟨k + 1, by go_num, by omega, HT2, HB2⟩
        case measure => simp [intOf]; omega
      | false =>
        have HS := Lib.hid (show Says false (∀ g ∈ G2, g ∈ L) from Says.no fun hp => of_decide_eq_false HZ.out.symm ((HMM.out b).2 (by rw [HBB.out]; exact hp _ (getD_mem hlt))))
        go_wp2_with fail
        go_ret
        exact ⟨false, rfl, HS.out, HB2.out⟩
    · have HS := Lib.hid (show Says true (∀ g ∈ G2, g ∈ L) from Says.yes fun g hg => by
        obtain ⟨i, hi, rfl⟩ := List.getElem_of_mem hg
        have := HT.out i (by omega)
        simpa [hi] using this)
      go_wp2_with fail
      go_ret
      exact ⟨true, rfl, HS.out, HB.out⟩

set_option maxRecDepth 100000 in
set_option maxHeartbeats 4000000 in
theorem normal_any {B B2 c m c2 m2 : Nat} {n n2 : Int} {vg vl vg2 vl2 : Value} {G L G2 L2 : List (List Int)} {w : World} (h : Clo B w c m n vg vl G L) (g1 : Grp G L) (k : Clo B2 w c2 m2 n2 vg2 vl2 G2 L2) (g2 : Grp G2 L2) :
    Calls Try.prog 61 #[.pointer (some ⟨c, 0, none⟩), .pointer (some ⟨c2, 0, none⟩)] w fun e w' => ∃ r, e = .returned (.bool r) ∧ Says r (∀ g ∈ G2, ∀ y ∈ G, conjL g y ∈ L2) ∧ Below w.heap.size w w' := by
  have HC := Lib.hid h
  have HK := Lib.hid k
  have HG := Lib.hid g2
  have HG1 := Lib.hid g1
  obtain ⟨ag, cg, rfl⟩ := k.rg.slice
  obtain ⟨ag1, cg1, rfl⟩ := h.rg.slice
  have h0 := k.cells.cell 1
  have hgl := g2.glen
  have hgl1 := g1.glen
  clear h k g2 g1
  go_enter Try.func61, Try.ntmps61
  go_wp2_with fail
  go_loopw [14] (fun i wr => ∃ k : Nat, i = .int .i64 k ∧ k ≤ G2.length ∧ Hid (∀ i, i < k → ∀ j, j < G.length → conjL (G2.getD i []) (G.getD j []) ∈ L2) ∧ Hid (Below w.heap.size w wr)) (fun i _ => G2.length - (intOf i).toNat)
  case atStart => exact ⟨0, rfl, Nat.zero_le _, Lib.hid (fun i hi => by omega), Lib.hid (Below.refl _ _)⟩
  case round =>
    clear h0
    obtain ⟨k, rfl, hk, HT, HB⟩ := hrel
    by_cases hlt : k < G2.length
    · obtain ⟨wo, hwo⟩ : ∃ W, W = wr := ⟨_, rfl⟩
      subst hwo
      obtain ⟨gg, cg', hag⟩ := HK.out.rg.form (by omega)
      cases hag
      have hr := (HK.out.below HB.out).rg.range (fun x hx => (HG.out.gels x hx).2) k hlt
      obtain ⟨a, ha⟩ : ∃ a, a = G2.getD k [] := ⟨_, rfl⟩
      have hEa : El a := by rw [ha]; exact HG.out.gels _ (getD_mem hlt)
      rw [← ha] at hr
      have HR := Lib.hid hr
      have HA := Lib.hid ha
      have HEA := Lib.hid hEa
      have HQ0 := Lib.hid (Blk.new wo 78 #[.int .u8 0, .int .u8 0, .int .u8 0, .int .u8 0, .int .u8 0, .int .u8 0, .int .u8 0])
      have HQ := Lib.hid (Blk.setRow HQ0.out (u8s a))
      have HBQ := Lib.hid (below_row ((Below.refl wo.heap.size wo).alloc (Nat.le_refl _) (.cells #[.int .u8 0, .int .u8 0, .int .u8 0, .int .u8 0, .int .u8 0, .int .u8 0, .int .u8 0] 78)) wo.heap.size (u8s a) (Nat.le_refl _))
      have HBX := Lib.hid (HB.out.trans (HBQ.out.mono HB.out.size))
      have h3 := (HC.out.cells.below HBX.out).cell 1
      clear hr ha hEa
      go_wp2_with (first | (refine wpList_load_mid rfl 78 _ rfl gg (k * 7) rfl (a.map (Value.int .u8)) _ HR.out Try.underlying78 rfl (info7 HEA.out) ?_) | (refine wpList_store_row rfl 78 _ _ rfl wo.heap.size (u8s a) rfl rfl 78 #[.int .u8 0, .int .u8 0, .int .u8 0, .int .u8 0, .int .u8 0, .int .u8 0, .int .u8 0] HQ0.out (infoElem' HEA.out.2) (by rw [size_u8s, HEA.out.2]; rfl) (u8s_one a) ?_))
      clear HR HQ0 HBQ HB h3
      go_loopw [23] (fun i wr => ∃ j : Nat, i = .int .i64 j ∧ j ≤ G.length ∧ Hid (∀ i, i < j → conjL a (G.getD i []) ∈ L2) ∧ Hid (Below w.heap.size w wr) ∧ Hid (Blk wr wo.heap.size 78 (u8s a))) (fun i _ => G.length - (intOf i).toNat)
      case atStart => exact ⟨0, rfl, Nat.zero_le _, Lib.hid (fun i hi => by omega), HBX, HQ⟩
      case round =>
        clear HBX HQ
        obtain ⟨j, rfl, hj, HU, HB, HQ⟩ := hrel
        by_cases hjl : j < G.length
        · obtain ⟨gh, ch, hag⟩ := HC.out.rg.form (by omega)
          cases hag
          have hr := (HC.out.below HB.out).rg.range (fun x hx => (HG1.out.gels x hx).2) j hjl
          obtain ⟨b, hb⟩ : ∃ b, b = G.getD j [] := ⟨_, rfl⟩
          have hEb : El b := by rw [hb]; exact HG1.out.gels _ (getD_mem hjl)
          rw [← hb] at hr
          have HR := Lib.hid hr
          have HBB := Lib.hid hb
          have HE := Lib.hid hEb
          have HR0 := Lib.hid (Blk.new wr 78 #[.int .u8 0, .int .u8 0, .int .u8 0, .int .u8 0, .int .u8 0, .int .u8 0, .int .u8 0])
          have HRX := Lib.hid (Blk.setRow HR0.out (u8s b))
          have HBX := Lib.hid (below_row ((Below.refl wr.heap.size wr).alloc (Nat.le_refl _) (.cells #[.int .u8 0, .int .u8 0, .int .u8 0, .int .u8 0, .int .u8 0, .int .u8 0, .int .u8 0] 78)) wr.heap.size (u8s b) (Nat.le_refl _))
          have HQX := Lib.hid (HQ.out.below HBX.out)
          have HKX := Lib.hid ((HK.out.below HB.out).below HBX.out)
          have HBY := Lib.hid (HB.out.trans (HBX.out.mono HB.out.size))
          clear hb hr hEb
          go_wp2_with (first | (refine wpList_load_mid rfl 78 _ rfl gh (j * 7) rfl (b.map (Value.int .u8)) _ HR.out Try.underlying78 rfl (info7 HE.out) ?_) | (refine wpList_store_row rfl 78 _ _ rfl wr.heap.size (u8s b) rfl rfl 78 #[.int .u8 0, .int .u8 0, .int .u8 0, .int .u8 0, .int .u8 0, .int .u8 0, .int .u8 0] HR0.out (infoElem' HE.out.2) (by rw [size_u8s, HE.out.2]; rfl) (u8s_one b) ?_))
          generalize (wr.alloc (.cells #[.int .u8 0, .int .u8 0, .int .u8 0, .int .u8 0, .int .u8 0, .int .u8 0, .int .u8 0] 78)).setRow wr.heap.size (u8s b) = W at *
          obtain ⟨M, hm, _, hM⟩ := HKX.out.set
          obtain ⟨z, hz⟩ : ∃ z, z = decide (conjL a b ∈ M) := ⟨_, rfl⟩
          have HM := Lib.hid hm
          have HMM := Lib.hid hM
          have HZ := Lib.hid hz
          have HEC := Lib.hid (HEA.out.conj HE.out)
          have HCj := Lib.hid (cjTo_eq HEA.out HE.out)
          clear hm hM hz HR HR0 HBX HB
          simp [Act.put]
          refine wp_region_held_all (S := fun w' => Below W.heap.size W w') (by kernel_rfl) ?_
          have hS : Below W.heap.size W W.drew := below_drewN' (Below.refl _ _) 1
          refine held_take (i := 0) (v := .pointer (some ⟨c2, 0, none⟩)) rfl rfl (by kernel_rfl) (by kernel_rfl) (by kernel_rfl) (fun w' h => by go_simp) hS ?_
          refine held_take (i := 1) (v := .pointer (some ⟨c2, 0, none⟩)) rfl rfl (by kernel_rfl) (by kernel_rfl) (by kernel_rfl) (fun w' h => by go_simp) hS ?_
          refine held_take (i := 2) (v := .pointer (some ⟨c2, 3, none⟩)) rfl rfl (by kernel_rfl) (by kernel_rfl) (by kernel_rfl) (fun w' h => by go_simp) hS ?_
          refine held_take (i := 3) (v := .map (some m2)) rfl rfl (by kernel_rfl) (by kernel_rfl) (by kernel_rfl) (fun w' h => by have h1 := (HKX.out.cells.below h).cell 3; go_simp) hS ?_
          refine held_take (i := 4) (v := .agg (u8s a)) rfl rfl (by kernel_rfl) (by kernel_rfl) (by kernel_rfl) (fun w' h => run_row_op 78 _ rfl wo.heap.size rfl 78 (u8s a) (0, 0) _ (HQX.out.below h) Try.underlying78 rfl (infoElem' HEA.out.2)) hS ?_
          refine held_take (i := 5) (v := .agg (u8s b)) rfl rfl (by kernel_rfl) (by kernel_rfl) (by kernel_rfl) (fun w' h => run_row_op 78 _ rfl wr.heap.size rfl 78 (u8s b) (0, 0) _ (HRX.out.below h) Try.underlying78 rfl (infoElem' HE.out.2)) hS ?_
          simp [Act.put]
          refine held_only (i := 6) rfl rfl (by kernel_rfl) (wp_call_any 82 Try.func82 (by kernel_rfl) rfl _ _ rfl #[.agg (u8s a), .agg (u8s b)] rfl ((conj_el a b W.drew HEA.out.e7 HE.out.e7).mono ?_))
          rintro e w5 ⟨rfl, hb5⟩
          have hS5 : Below W.heap.size W w5 := hS.trans (hb5.mono hS.size)
          refine ⟨_, rfl, hS5, ?_⟩
          rw [HCj.out]
          clear hb5
          simp [Act.put]
          refine held_take (i := 7) (v := .bool z) rfl rfl (by kernel_rfl) (by kernel_rfl) (by kernel_rfl) (fun w' h => by rw [HZ.out]; exact run_look_op _ _ rfl m2 M rfl (HM.out.below h) (conjL a b) rfl HEC.out.e7) hS5 ?_
          refine held_take (i := 8) (v := .bool (!z)) rfl rfl (by kernel_rfl) (by kernel_rfl) (by kernel_rfl) (fun w' h => by go_simp) hS5 ?_
          refine held_done (by kernel_rfl) ?_
          have HB2 := Lib.hid (HBY.out.trans (hS5.mono HBY.out.size))
          have HQ2 := Lib.hid (HQX.out.below hS5)
          clear hS hS5
          simp [Act.put]
          cases z with
          | true =>
            have HU2 := Lib.hid (show ∀ i, i < j + 1 → conjL a (G.getD i []) ∈ L2 from fun i hi => by
              by_cases e : i = j
              · subst e; rw [← HBB.out]; exact (HMM.out _).1 (of_decide_eq_true HZ.out.symm)
              · exact HU.out i (by omega))
            go_wp2_with fail
            go_roundw
            case rel => exact ⟨j + 1, by go_num, by omega, HU2, HB2, HQ2⟩
            case measure => simp [intOf]; omega
          | false =>
            have HS := Lib.hid (show Says false (∀ g ∈ G2, ∀ y ∈ G, conjL g y ∈ L2) from Says.no fun hp => of_decide_eq_false HZ.out.symm ((HMM.out _).2 (by rw [HA.out, HBB.out]; exact hp _ (getD_mem hlt) _ (getD_mem hjl))))
            go_wp2_with fail
            go_ret
            exact ⟨false, rfl, HS.out, HB2.out⟩
        · have HT2 := Lib.hid (show ∀ i, i < k + 1 → ∀ j, j < G.length → conjL (G2.getD i []) (G.getD j []) ∈ L2 from fun i hi j' hj' => by
            by_cases e : i = k
            · subst e; rw [← HA.out]; exact HU.out j' (by omega)
            · exact HT.out i (by omega) j' hj')
          go_wp2_with fail
          go_roundw
          case rel => exact ⟨k + 1, by go_num, by omega, HT2, HB⟩
          case measure => simp [intOf]; omega
    · have HS := Lib.hid (show Says true (∀ g ∈ G2, ∀ y ∈ G, conjL g y ∈ L2) from Says.yes fun g hg y hy => by
        obtain ⟨i, hi, rfl⟩ := List.getElem_of_mem hg
        obtain ⟨j, hj, rfl⟩ := List.getElem_of_mem hy
        have := HT.out i (by omega) j hj
        simpa [hi, hj] using this)
      go_wp2_with fail
      go_ret
      exact ⟨true, rfl, HS.out, HB.out⟩
end Go.Proofs.Ytjnjhfificpbbaa
namespace Go.Proofs.Ytjnjhfificpbbaa
open Go Go.RowKit

section
variable {P : Program} {ops : Array Oper} {S : World → Prop} {T : Act → World → Prop}
theorem held_take_w {i : Nat} {oi : Oper} {v : Value} {fuel : Nat} {listed : Array Bool} {a : Act} {w : World} (hi : ops[i]? = some oi) (hg : Region.wanted oi (yielded ops a.tmps) = true)
    (hs : Region.noSelect ops = true) (hf : Region.free .any ops listed i = true) (hr : (Region.ready .any ops listed).contains i = true)
    (hy : ∀ w, S w → (execOp a.eval oi).run P w = .ok (.value v) w) (hS : S w)
    (h : wpAnyH P .any ops (Only T) S fuel (listed.setIfInBounds i true) (a.put oi.dst v) w) : wpAnyH P .any ops (Only T) S (fuel + 1) listed a w :=
  wpAnyH_take hi hs hf hr (fun _ _ _ h => by cases h.1) (.inl ⟨hg, hy⟩) hS h
theorem held_skip {i : Nat} {oi : Oper} {fuel : Nat} {listed : Array Bool} {a : Act} {w : World} (hi : ops[i]? = some oi) (hg : Region.wanted oi (yielded ops a.tmps) = false)
    (hs : Region.noSelect ops = true) (hf : Region.free .any ops listed i = true) (hr : (Region.ready .any ops listed).contains i = true) (hS : S w)
    (h : wpAnyH P .any ops (Only T) S fuel (listed.setIfInBounds i true) (a.put oi.dst undef) w) : wpAnyH P .any ops (Only T) S (fuel + 1) listed a w :=
  wpAnyH_take hi hs hf hr (fun _ _ _ h => by cases h.1) (.inr ⟨hg, rfl⟩) hS h
theorem held_only_w {i : Nat} {oi : Oper} {fuel : Nat} {listed : Array Bool} {a : Act} {w : World} (hi : ops[i]? = some oi) (hg : Region.wanted oi (yielded ops a.tmps) = true) (hr : Region.ready .any ops listed = [i])
    (h : oi.wp P a w (fun a' w' => S w' ∧ wpAnyH P .any ops (Only T) S fuel (listed.setIfInBounds i true) a' w') (Only T)) : wpAnyH P .any ops (Only T) S (fuel + 1) listed a w := by
  refine wpAnyH_all hr (by simp) (fun j hj => ?_)
  have e : j = i := by simpa using hj
  subst e
  unfold wpOp
  simp only [hi, hg, if_true]
  exact .inl h
end

/-- sub is closed under conjugation with elements of the group -/
def NormP (ps qs : List (List Int)) : Prop := ∀ a ∈ pks qs, ∀ b ∈ pks ps, conjL a b ∈ pks qs
theorem sub_iff {ps qs G L G2 L2 : List (List Int)} (hp : IsGrp ps) (hq : IsGrp qs) (g : Grp G L) (g2 : Grp G2 L2) (h : ∀ a, a ∈ L ↔ Gen (pks ps) a) (h2 : ∀ a, a ∈ L2 ↔ Gen (pks qs) a) : (∀ x ∈ G2, x ∈ L) ↔ ∀ a ∈ pks qs, a ∈ pks ps := by
  constructor
  · intro hs a ha
    have h3 := (h2 a).2 (Gen.of_mem hq.1.els ha)
    have h4 := (g2.mem a).1 h3
    have h5 : Gen G a := Gen.sub g.gels (fun x hx => (g.mem x).1 (hs x hx)) h4
    exact hp.2.2 a ((h a).1 ((g.mem a).2 h5))
  · intro hs x hx
    have h3 := hq.2.2 x ((h2 x).1 (g2.sub x hx))
    exact (h x).2 (Gen.of_mem hp.1.els (hs x h3))
theorem norm_iff {ps qs G L G2 L2 : List (List Int)} (hp : IsGrp ps) (hq : IsGrp qs) (g : Grp G L) (g2 : Grp G2 L2) (h : ∀ a, a ∈ L ↔ Gen (pks ps) a) (h2 : ∀ a, a ∈ L2 ↔ Gen (pks qs) a) : (∀ x ∈ G2, ∀ y ∈ G, conjL x y ∈ L2) ↔ NormP ps qs := by
  constructor
  · intro hs a ha b hb
    have h3 := (g2.mem a).1 ((h2 a).2 (Gen.of_mem hq.1.els ha))
    have h4 := (g.mem b).1 ((h b).2 (Gen.of_mem hp.1.els hb))
    have h5 := normal_all g2.gels g.gels (fun d hd y hy => (g2.mem _).1 (hs d hd y hy)) h3 h4
    exact hq.2.2 _ ((h2 _).1 ((g2.mem _).2 h5))
  · intro hs x hx y hy
    have h3 := hq.2.2 x ((h2 x).1 (g2.sub x hx))
    have h4 := hp.2.2 y ((h y).1 (g.sub y hy))
    exact (h2 _).2 (Gen.of_mem hq.1.els (hs x h3 y h4))

set_option maxRecDepth 100000 in
set_option maxHeartbeats 4000000 in
theorem Normal_ok (u v : Value) (ps qs : List (List Int)) (w : World) (h : Sps w u ps) (k : Sps w v qs) (hp : IsGrp ps) (hq : IsGrp qs) :
    Calls Try.prog 24 #[u, v] w fun e w' => Below w.heap.size w w' ∧ ((((ps.getD 0 []).length ≠ (qs.getD 0 []).length ∨ ¬ ∀ a ∈ pks qs, a ∈ pks ps) ∧ e = .returned (.tuple #[.bool false, .int .i64 2])) ∨ ((ps.getD 0 []).length = (qs.getD 0 []).length ∧ (∀ a ∈ pks qs, a ∈ pks ps) ∧ ∃ r, e = .returned (.tuple #[.bool r, .int .i64 0]) ∧ Says r (NormP ps qs))) := by
  have HH := Lib.hid h
  have HK := Lib.hid k
  have HP := Lib.hid hp
  have HQ := Lib.hid hq
  obtain ⟨a, cap, rfl, _⟩ := h
  obtain ⟨b, cap2, rfl, _⟩ := k
  obtain ⟨l, hl⟩ : ∃ l, l = ps.length := ⟨_, rfl⟩
  obtain ⟨l2, hl2⟩ : ∃ l2, l2 = qs.length := ⟨_, rfl⟩
  rw [← hl] at HH ⊢
  rw [← hl2] at HK ⊢
  obtain ⟨n, hn⟩ : ∃ n, n = (ps.getD 0 []).length := ⟨_, rfl⟩
  obtain ⟨n2, hn2⟩ : ∃ n2, n2 = (qs.getD 0 []).length := ⟨_, rfl⟩
  have HN := Lib.hid hn
  have HN2 := Lib.hid hn2
  rw [← hn, ← hn2]
  have h7 : n ≤ 7 := by rw [hn]; exact hp.seven
  have h72 : n2 ≤ 7 := by rw [hn2]; exact hq.seven
  clear hp hq hl hl2 hn hn2
  go_enter Try.func24, Try.ntmps24
  go_wp2_with fail
  refine (closedOf_any _ ps _ HH.out HP.out.small).mono ?_
  rintro e w1 ⟨hb1, hcase⟩
  obtain ⟨_, c, m, vg, vl, G, L, rfl, ho, hm⟩ := hcase.resolve_left (fun h => h.1 HP.out)
  rw [← HN.out] at ho
  have HO := Lib.hid ho
  have HM := Lib.hid hm
  have HB1 := Lib.hid hb1
  have HK1 := Lib.hid (HK.out.below hb1)
  clear ho hm hb1 hcase
  go_wp2_with fail
  refine (closedOf_any _ qs _ HK1.out HQ.out.small).mono ?_
  rintro e w2 ⟨hb2, hcase⟩
  obtain ⟨_, c2, m2, vg2, vl2, G2, L2, rfl, ho2, hm2⟩ := hcase.resolve_left (fun h => h.1 HQ.out)
  rw [← HN2.out] at ho2
  have HO2 := Lib.hid ho2
  have HM2 := Lib.hid hm2
  have HC := Lib.hid (HO.out.clo.below hb2)
  have HB2 := Lib.hid (HB1.out.trans (hb2.mono HB1.out.size))
  have HSub := Lib.hid (sub_iff HP.out HQ.out HO.out.grp HO2.out.grp HM.out HM2.out)
  have HNorm := Lib.hid (norm_iff HP.out HQ.out HO.out.grp HO2.out.grp HM.out HM2.out)
  clear ho2 hm2 hb2 hcase
  obtain ⟨z, hz⟩ : ∃ z, z = decide (n ≠ n2) := ⟨_, rfl⟩
  have hz1 : ((n : Int) != (n2 : Int)) = z := by
    rw [hz]
    by_cases e : n = n2
    · subst e; simp
    · rw [decide_eq_true e]; exact bne_iff_ne.2 (by omega)
  have HZ := Lib.hid hz
  clear hz
  go_wp2_with fail
  refine wp_region_held_all (S := fun w' => Below w2.heap.size w2 w') (by kernel_rfl) ?_
  have hS : Below w2.heap.size w2 w2.drew := below_drewN' (Below.refl _ _) 1
  refine held_take (i := 0) (v := .pointer (some ⟨c, 0, none⟩)) rfl rfl (by kernel_rfl) (by kernel_rfl) (by kernel_rfl) (fun w' h => by go_simp) hS ?_
  refine held_take (i := 1) (v := .pointer (some ⟨c, 0, none⟩)) rfl rfl (by kernel_rfl) (by kernel_rfl) (by kernel_rfl) (fun w' h => by go_simp) hS ?_
  refine held_take (i := 2) (v := .pointer (some ⟨c, 0, none⟩)) rfl rfl (by kernel_rfl) (by kernel_rfl) (by kernel_rfl) (fun w' h => by go_simp) hS ?_
  refine held_take (i := 3) (v := .int .i64 n) rfl rfl (by kernel_rfl) (by kernel_rfl) (by kernel_rfl) (fun w' h => by have h1 := (HC.out.cells.below h).cell 0; go_simp) hS ?_
  simp [Act.put]
  refine held_take (i := 4) (v := .pointer (some ⟨c2, 0, none⟩)) rfl rfl (by kernel_rfl) (by kernel_rfl) (by kernel_rfl) (fun w' h => by go_simp) hS ?_
  refine held_take (i := 5) (v := .pointer (some ⟨c2, 0, none⟩)) rfl rfl (by kernel_rfl) (by kernel_rfl) (by kernel_rfl) (fun w' h => by go_simp) hS ?_
  refine held_take (i := 6) (v := .pointer (some ⟨c2, 0, none⟩)) rfl rfl (by kernel_rfl) (by kernel_rfl) (by kernel_rfl) (fun w' h => by go_simp) hS ?_
  refine held_take (i := 7) (v := .int .i64 n2) rfl rfl (by kernel_rfl) (by kernel_rfl) (by kernel_rfl) (fun w' h => by have h1 := (HO2.out.clo.cells.below h).cell 0; go_simp) hS ?_
  simp [Act.put]
  refine held_take (i := 8) (v := .bool z) rfl rfl (by kernel_rfl) (by kernel_rfl) (by kernel_rfl) (fun w' h => by go_simp) hS ?_
  refine held_take (i := 9) (v := .bool z) rfl rfl (by kernel_rfl) (by kernel_rfl) (by kernel_rfl) (fun w' h => by go_simp) hS ?_
  simp [Act.put]
  cases z with
  | true =>
    refine held_skip (i := 10) rfl (by kernel_rfl) (by kernel_rfl) (by kernel_rfl) (by kernel_rfl) hS ?_
    refine held_skip (i := 11) rfl (by kernel_rfl) (by kernel_rfl) (by kernel_rfl) (by kernel_rfl) hS ?_
    refine held_skip (i := 12) rfl (by kernel_rfl) (by kernel_rfl) (by kernel_rfl) (by kernel_rfl) hS ?_
    refine held_skip (i := 13) rfl (by kernel_rfl) (by kernel_rfl) (by kernel_rfl) (by kernel_rfl) hS ?_
    simp [Act.put]
    refine held_take (i := 14) (v := .bool true) rfl rfl (by kernel_rfl) (by kernel_rfl) (by kernel_rfl) (fun w' h => by go_simp) hS ?_
    refine held_done (by kernel_rfl) ?_
    have HB3 := Lib.hid (HB2.out.trans (hS.mono HB2.out.size))
    clear hS
    simp [Act.put]
    go_wp2_with fail
    go_ret2
    exact ⟨HB3.out, .inl ⟨.inl (of_decide_eq_true HZ.out.symm), rfl⟩⟩
  | false =>
    refine held_take_w (i := 10) (v := .pointer (some ⟨c, 0, none⟩)) rfl (by kernel_rfl) (by kernel_rfl) (by kernel_rfl) (by kernel_rfl) (fun w' h => by go_simp) hS ?_
    refine held_take_w (i := 11) (v := .pointer (some ⟨c2, 0, none⟩)) rfl (by kernel_rfl) (by kernel_rfl) (by kernel_rfl) (by kernel_rfl) (fun w' h => by go_simp) hS ?_
    simp [Act.put]
    refine held_only_w (i := 12) rfl (by kernel_rfl) (by kernel_rfl) (wp_call_any 60 Try.func60 (by kernel_rfl) rfl _ _ rfl #[.pointer (some ⟨c, 0, none⟩), .pointer (some ⟨c2, 0, none⟩)] rfl ((contains_any (HC.out.below hS) (HO2.out.clo.below hS) HO2.out.grp).mono ?_))
    rintro e w3 ⟨r, rfl, hr, hb3⟩
    have hS3 : Below w2.heap.size w2 w3 := hS.trans (hb3.mono hS.size)
    refine ⟨_, rfl, hS3, ?_⟩
    have HR := Lib.hid hr
    clear hr hb3
    simp [Act.put]
    refine held_take_w (i := 13) (v := .bool (!r)) rfl (by kernel_rfl) (by kernel_rfl) (by kernel_rfl) (by kernel_rfl) (fun w' h => by go_simp) hS3 ?_
    refine held_take (i := 14) (v := .bool (!r)) rfl rfl (by kernel_rfl) (by kernel_rfl) (by kernel_rfl) (fun w' h => by go_simp) hS3 ?_
    refine held_done (by kernel_rfl) ?_
    have HB3 := Lib.hid (HB2.out.trans (hS3.mono HB2.out.size))
    have HS3 := Lib.hid hS3
    clear hS hS3
    simp [Act.put]
    cases r with
    | false =>
      go_wp2_with fail
      go_ret2
      exact ⟨HB3.out, .inl ⟨.inr (fun h => by have := HR.out.2 (HSub.out.2 h); cases this), rfl⟩⟩
    | true =>
      go_wp2_with fail
      refine (normal_any (HC.out.below HS3.out) HO.out.grp (HO2.out.clo.below HS3.out) HO2.out.grp).mono ?_
      rintro e w4 ⟨r, rfl, hr, hb4⟩
      have HR4 := Lib.hid hr
      have HB4 := Lib.hid (HB3.out.trans (hb4.mono HB3.out.size))
      clear hr hb4
      go_wp2_with fail
      go_ret2
      exact ⟨HB4.out, .inr ⟨by have := of_decide_eq_false HZ.out.symm; omega, HSub.out.1 (HR.out.1 rfl), r, rfl, ⟨fun h => HNorm.out.1 (HR4.out.1 h), fun h => HR4.out.2 (HNorm.out.2 h)⟩⟩⟩
end Go.Proofs.Ytjnjhfificpbbaa
namespace Go.Proofs.Ytjnjhfificpbbaa
open Go Go.RowKit

set_option maxRecDepth 100000 in
set_option maxHeartbeats 2000000 in
theorem refIn_any (u v : Value) (ps : List (List Int)) (p : List Int) (w : World) (h : Sps w u ps) (k : Sl w v p) (hx : ∀ i, i < ps.length → (ps.getD i []).length ≤ 1000000) (hp : p.length ≤ 1000000) (hl : ps.length ≤ 1000000) :
    Calls Try.prog 37 #[u, v] w fun e w' => ∃ r, e = .returned (.bool r) ∧ Says r (p ∈ ps) ∧ Below w.heap.size w w' := by
  have HK := Lib.hid k
  have HX := Lib.hid hx
  obtain ⟨a, cap, rfl, h⟩ := h
  obtain ⟨va, vc, rfl, _⟩ := k
  obtain ⟨n, hn⟩ : ∃ n, n = ps.length := ⟨_, rfl⟩
  obtain ⟨q, hq⟩ : ∃ q, q = p.length := ⟨_, rfl⟩
  have HN := Lib.hid hn
  rw [← hn] at hl ⊢
  rw [← hq] at HK ⊢
  have HC := Lib.hid h
  have HP := Lib.hid hp
  clear h hx hn hq hp
  go_enter Try.func37, Try.ntmps37
  go_wp2_with fail
  go_loopw [5] (fun i wr => ∃ k : Nat, i = .int .i64 k ∧ k ≤ n ∧ Hid (∀ i, i < k → ps.getD i [] ≠ p) ∧ Hid (Below w.heap.size w wr)) (fun i _ => n - (intOf i).toNat)
  case atStart => exact ⟨0, rfl, Nat.zero_le _, Lib.hid (fun i hi => by omega), Lib.hid (Below.refl _ _)⟩
  case round =>
    obtain ⟨k, rfl, hk, HT, HB⟩ := hrel
    by_cases hlt : k < n
    · rcases HC.out with h | ⟨b, off, rfl, h⟩
      · have := HN.out; rw [h] at this; simp at this; omega
      obtain ⟨x, g0, s0⟩ := h k (by rw [← HN.out]; exact hlt)
      have g1 : wr.cell? ⟨b, off + k, none⟩ = some x := (HB.out.cell (p := ⟨b, off + k, none⟩) (World.block_lt_of_cell? w _ g0)).trans g0
      obtain ⟨z, hz⟩ : ∃ z, z = decide (ps.getD k [] = p) := ⟨_, rfl⟩
      have HCall := Lib.hid (show Calls Try.prog 42 #[x, .slice va q vc] wr fun e w' => e = .returned (.bool z) ∧ Below wr.heap.size wr w' from by
        rw [hz]
        exact (same_any _ _ _ _ _ (s0.below HB.out) (HK.out.below HB.out) (HX.out k (by rw [← HN.out]; exact hlt)) HP.out).mono fun e w' ⟨he, i, hi⟩ => ⟨he, by rw [hi]; exact below_drewN' (Below.refl _ _) i⟩)
      have HZ := Lib.hid hz
      obtain ⟨xa, xc, rfl, _⟩ := s0
      obtain ⟨l, hl0⟩ : ∃ l, l = (ps.getD k []).length := ⟨_, rfl⟩
      rw [← hl0] at g1 HCall
      clear h g0 hz hl0
      cases z with
      | true =>
        have HS := Lib.hid (show Says true (p ∈ ps) from Says.yes (by rw [← of_decide_eq_true HZ.out.symm]; simp [show k < ps.length by rw [← HN.out]; exact hlt]))
        go_wp2_with fail
        refine HCall.out.mono ?_
        rintro e w2 ⟨rfl, hb⟩
        have HB2 := Lib.hid (HB.out.trans (hb.mono HB.out.size))
        clear hb
        go_wp2_with fail
        go_ret
        exact ⟨true, rfl, HS.out, HB2.out⟩
      | false =>
        have HT2 := Lib.hid (show ∀ i, i < k + 1 → ps.getD i [] ≠ p from fun i hi => by
          by_cases e : i = k
          · subst e; exact of_decide_eq_false HZ.out.symm
          · exact HT.out i (by omega))
        go_wp2_with fail
        refine HCall.out.mono ?_
        rintro e w2 ⟨rfl, hb⟩
        have HB2 := Lib.hid (HB.out.trans (hb.mono HB.out.size))
        clear hb
        go_wp2_with fail
        go_roundw
        case rel => exact ⟨k + 1, by go_num, by omega, HT2, HB2⟩
        case measure => simp [intOf]; omega
    · have HS := Lib.hid (show Says false (p ∈ ps) from Says.no fun hm => by
        obtain ⟨i, hi, rfl⟩ := List.getElem_of_mem hm
        exact HT.out i (by rw [← HN.out] at hi; omega) (by simp [hi]))
      go_wp2_with fail
      go_ret
      exact ⟨false, rfl, HS.out, HB.out⟩

set_option maxRecDepth 100000 in
set_option maxHeartbeats 2000000 in
theorem refWithin_any (u v : Value) (ps qs : List (List Int)) (w : World) (h : Sps w u ps) (k : Sps w v qs) (hp : IsGrp ps) (hq : IsGrp qs) :
    Calls Try.prog 32 #[u, v] w fun e w' => ∃ r, e = .returned (.bool r) ∧ Says r (∀ q ∈ qs, q ∈ ps) ∧ Below w.heap.size w w' := by
  have HH := Lib.hid h
  obtain ⟨a, cap, rfl, h⟩ := h
  obtain ⟨a2, cap2, rfl, k⟩ := k
  obtain ⟨m, hm⟩ : ∃ m, m = ps.length := ⟨_, rfl⟩
  obtain ⟨n, hn⟩ : ∃ n, n = qs.length := ⟨_, rfl⟩
  have HN := Lib.hid hn
  have HM := Lib.hid hm
  have hn5 : n ≤ 5040 := by rw [hn]; exact hq.1.2.1
  have hn1 : 1 ≤ n := by rw [hn]; exact hq.1.1
  have hm1 : 1 ≤ m := by rw [hm]; exact hp.1.1
  have hm5 : m ≤ 5040 := by rw [hm]; exact hp.1.2.1
  have HP := Lib.hid hp
  have HQ := Lib.hid hq
  rw [← hm] at HH ⊢
  rw [← hn]
  rcases k with k | ⟨b, off, rfl, k⟩
  · rw [k] at hn; simp at hn; omega
  rcases h with h | ⟨b0, off0, rfl, h⟩
  · rw [h] at hm; simp at hm; omega
  have HC := Lib.hid k
  obtain ⟨x0, y0, s0⟩ := h 0 (by omega)
  obtain ⟨x1, y1, s1⟩ := k 0 (by omega)
  rw [Nat.add_zero] at y0 y1
  have hb0 : b0 < w.heap.size := World.block_lt_of_cell? w _ y0
  have hb1 : b < w.heap.size := World.block_lt_of_cell? w _ y1
  obtain ⟨xa0, xc0, rfl, _⟩ := s0
  obtain ⟨xa1, xc1, rfl, _⟩ := s1
  obtain ⟨l0, hl0⟩ : ∃ l0, l0 = (ps.getD 0 []).length := ⟨_, rfl⟩
  obtain ⟨l1, hl1⟩ : ∃ l1, l1 = (qs.getD 0 []).length := ⟨_, rfl⟩
  rw [← hl0] at y0
  rw [← hl1] at y1
  have HL0 := Lib.hid hl0
  have HL1 := Lib.hid hl1
  have Y0 := Lib.hid y0
  have Y1 := Lib.hid y1
  clear h k hp hq hm hn hl0 hl1 y0 y1
  go_enter Try.func32, Try.ntmps32
  go_wp2_with fail
  go_loopw [5] (fun i wr => ∃ k : Nat, i = .int .i64 k ∧ k ≤ n ∧ Hid (∀ i, i < k → qs.getD i [] ∈ ps) ∧ Hid (Below w.heap.size w wr)) (fun i _ => n - (intOf i).toNat)
  case atStart => exact ⟨0, rfl, Nat.zero_le _, Lib.hid (fun i hi => by omega), Lib.hid (Below.refl _ _)⟩
  case round =>
    obtain ⟨k, rfl, hk, HT, HB⟩ := hrel
    by_cases hlt : k < n
    · obtain ⟨x, g0, s0⟩ := HC.out k (by rw [← HN.out]; exact hlt)
      have g1 : wr.cell? ⟨b, off + k, none⟩ = some x := (HB.out.cell (p := ⟨b, off + k, none⟩) hb1).trans g0
      have HCall := Lib.hid (refIn_any _ _ ps (qs.getD k []) wr (HH.out.below HB.out) (s0.below HB.out) HP.out.small (HQ.out.small k (by rw [← HN.out]; exact hlt)) (by rw [← HM.out]; omega))
      obtain ⟨xa, xc, rfl, _⟩ := s0
      obtain ⟨l, hl⟩ : ∃ l, l = (qs.getD k []).length := ⟨_, rfl⟩
      rw [← hl] at g1 HCall
      clear g0 hl
      go_wp2_with fail
      refine HCall.out.mono ?_
      rintro e w2 ⟨r, rfl, hr, hb⟩
      have HR := Lib.hid hr
      have HB2 := Lib.hid (HB.out.trans (hb.mono HB.out.size))
      clear hb hr
      cases r with
      | true =>
        have HT2 := Lib.hid (show ∀ i, i < k + 1 → qs.getD i [] ∈ ps from fun i hi => by
          by_cases e : i = k
          · subst e; exact HR.out.1 rfl
          · exact HT.out i (by omega))
        go_wp2_with fail
        go_roundw
        case rel => exact ⟨k + 1, by go_num, by omega, HT2, HB2⟩
        case measure => simp [intOf]; omega
      | false =>
        have HS := Lib.hid (show Says false (∀ q ∈ qs, q ∈ ps) from Says.no fun hm => by
          have := HR.out.2 (hm _ (by simp [show k < qs.length by rw [← HN.out]; exact hlt]))
          cases this)
        go_wp2_with fail
        go_ret
        exact ⟨false, rfl, HS.out, HB2.out⟩
    · have HA := Lib.hid (show ∀ q ∈ qs, q ∈ ps from fun q hq => by
        obtain ⟨i, hi, rfl⟩ := List.getElem_of_mem hq
        have := HT.out i (by rw [← HN.out] at hi; omega)
        simpa [hi] using this)
      have hll : l0 = l1 := by
        have h0 : qs.getD 0 [] ∈ qs := by simp [show 0 < qs.length by rw [← HN.out]; omega]
        rw [HL0.out, HL1.out]; exact (HP.out.1.mem (HA.out _ h0)).2.symm
      have g0 : wr.cell? ⟨b0, off0, none⟩ = some (.slice xa0 l0 xc0) := (HB.out.cell (p := ⟨b0, off0, none⟩) hb0).trans Y0.out
      have g1 : wr.cell? ⟨b, off, none⟩ = some (.slice xa1 l1 xc1) := (HB.out.cell (p := ⟨b, off, none⟩) hb1).trans Y1.out
      subst hll
      go_wp2_with fail
      go_quiet (fail)
      go_wp2_with fail
      go_ret
      exact ⟨true, rfl, Says.yes HA.out, below_drewN' HB.out nq⟩

/-- the conjugate of permutations, in the reference's order -/
def conjP (c s : List Int) : List Int := mulL (mulL (invL c) s) c
theorem conjP_valid {c s : List Int} (hc : validL c = true) (hs : validL s = true) (hl : c.length = s.length) : validL (conjP c s) = true ∧ (conjP c s).length = c.length := by
  unfold conjP
  exact ⟨mulL_valid (mulL_valid (invL_valid hc) hs (by rw [length_invL]; exact hl)) hc (by rw [length_mulL, length_invL]), by rw [length_mulL, length_mulL, length_invL]⟩
theorem pk7_conj {c s : List Int} (hc : validL c = true) (hs : validL s = true) (hl : c.length = s.length) : pk7 (conjP c s) = conjL (pk7 s) (pk7 c) := by
  unfold conjP conjL
  rw [pk7_mul (mulL_valid (invL_valid hc) hs (by rw [length_invL]; exact hl)) hc (by rw [length_mulL, length_invL]), pk7_mul (invL_valid hc) hs (by rw [length_invL]; exact hl), pk7_inv hc]

set_option maxHeartbeats 1000000 in
theorem refcj_any (u v : Value) (c s : List Int) (w : World) (h : Sl w u c) (k : Sl w v s) (hc : validL c = true) (hs : validL s = true) (hl : c.length = s.length) :
    Calls Try.prog 72 #[u, v] w fun e w' => ∃ x, e = .returned x ∧ Ow w.heap.size w' x (conjP c s) ∧ Below w.heap.size w w' := by
  have HH := Lib.hid h
  have HK := Lib.hid k
  have HV := Lib.hid hc
  have HW := Lib.hid hs
  have h7 := ((validL_iff _).1 hc).2.1
  obtain ⟨a, ca, rfl, _⟩ := h
  obtain ⟨b, cb, rfl, _⟩ := k
  obtain ⟨n, hn⟩ : ∃ n, n = c.length := ⟨_, rfl⟩
  have HN := Lib.hid hn
  have HL := Lib.hid hl
  rw [← hl, ← hn] at HK
  rw [← hn] at HH h7
  rw [← hl, ← hn]
  clear hc hs hl hn
  go_enter Try.func72, Try.ntmps72
  go_wp2_with fail
  refine (refinv_any _ c _ HH.out (by rw [← HN.out]; omega) (inR_of_valid HV.out)).mono ?_
  rintro e w1 ⟨x, rfl, hx, hb1⟩
  have HX := Lib.hid hx.sl
  have HB1 := Lib.hid hb1
  have HH1 := Lib.hid (HH.out.below hb1)
  have HK1 := Lib.hid (HK.out.below hb1)
  obtain ⟨xa, xc, e1, _⟩ := hx.sl
  rw [length_invL, ← HN.out] at e1
  subst e1
  clear hx hb1
  go_wp2_with fail
  refine (refmul_any _ _ (invL c) s _ HX.out HK1.out (by rw [length_invL, ← HN.out]; omega) (by rw [← HL.out, ← HN.out]; omega) (by have := inR_of_valid (invL_valid HV.out); rwa [length_invL, HL.out] at this)).mono ?_
  rintro e w2 ⟨y, rfl, hy, hb2⟩
  have HY := Lib.hid hy.sl
  have HB2 := Lib.hid (HB1.out.trans (hb2.mono HB1.out.size))
  have HH2 := Lib.hid (HH1.out.below hb2)
  obtain ⟨ya, yc, e1, _⟩ := hy.sl
  rw [length_mulL, length_invL, ← HN.out] at e1
  subst e1
  have hv2 := mulL_valid (invL_valid HV.out) HW.out (by rw [length_invL]; exact HL.out)
  have HV2 := Lib.hid hv2
  clear hy hb2 hv2
  go_wp2_with fail
  refine (refmul_any _ _ (mulL (invL c) s) c _ HY.out HH2.out (by rw [length_mulL, length_invL, ← HN.out]; omega) (by rw [← HN.out]; omega) (by have := inR_of_valid HV2.out; rwa [length_mulL, length_invL] at this)).mono ?_
  rintro e w3 ⟨z, rfl, hz, hb3⟩
  have HZ := Lib.hid (hz.mono HB2.out.size)
  have HB3 := Lib.hid (HB2.out.trans (hb3.mono HB2.out.size))
  clear hz hb3
  go_wp2_with fail
  go_ret
  exact ⟨_, rfl, HZ.out, HB3.out⟩
end Go.Proofs.Ytjnjhfificpbbaa
namespace Go.Proofs.Ytjnjhfificpbbaa
open Go Go.RowKit

theorem guardEl : Program.eqGuardType Try.prog Try.prog.depth 78 = false := by kernel_rfl
theorem sizeU8 (w : World) : (sizeOf 5).run Try.prog w = .ok 1 w := by kernel_rfl
theorem aggU8 (w : World) : (isAgg 5).run Try.prog w = .ok false w := by kernel_rfl
theorem partU8 (xs : Array Value) (i : Nat) (v : Value) (h : xs[i]? = some v) (w : World) : (part 5 xs i).run Try.prog w = .ok v w := by
  unfold part
  simp [Sem.run_bind, h]
theorem eq8 (a b : Int) (d : Nat) (w : World) : (Op.equalIn (d + 1) 5 (.int .u8 a) (.int .u8 b)).run Try.prog w = .ok (a == b) w :=
  run_equalIn_int w d 5 .u8 .u8 a b Try.underlying5
theorem ite_and {p : Prop} [Decidable p] {q : Bool} {X : Result Bool} {w : World} (h : X = Result.ok q w) : (if p then X else Result.ok false w) = Result.ok (decide p && q) w := by
  by_cases hp : p
  · rw [if_pos hp, decide_eq_true hp, Bool.true_and, h]
  · rw [if_neg hp, decide_eq_false hp, Bool.false_and]
theorem equalEl (a b : List Int) (ha : a.length = 7) (hb : b.length = 7) (d : Nat) (w : World) : (Op.equalIn (d + 2) 78 (.agg (u8s a)) (.agg (u8s b))).run Try.prog w = .ok (decide (a = b)) w := by
  match a, b, ha, hb with
  | [x0, x1, x2, x3, x4, x5, x6], [y0, y1, y2, y3, y4, y5, y6], _, _ =>
    rw [Op.equalIn.eq_def]
    simp only [Sem.run_bind, run_underlying Try.underlying78, Result.andThen_ok, sizeU8]
    simp only [Std.Legacy.Range.forIn_eq_forIn_range', Std.Legacy.Range.size]
    simp [List.range', u8s, Sem.run_bind, partU8, eq8]
    refine ite_and ?_
    refine ite_and ?_
    refine ite_and ?_
    refine ite_and ?_
    refine ite_and ?_
    refine ite_and ?_
    by_cases h : x6 = y6 <;> simp [h]
theorem run_neq_op {o : Oper} {act : Act} {w : World} (x y : Operand) (r : TypeId) (hop : o.op = .binOp .neq 78 x y r) (a b : List Int) (hx : act.eval x = .agg (u8s a)) (hy : act.eval y = .agg (u8s b)) (ha : a.length = 7) (hb : b.length = 7) :
    (execOp act.eval o).run Try.prog w = .ok (.value (.bool (!decide (a = b)))) w := by
  simp [execOp, hop, hx, hy, run_eqGuard_agg _ _ _ _ _ _ _ guardEl, run_neq_struct, equalEl a b ha hb, Result.andThen]
end Go.Proofs.Ytjnjhfificpbbaa
namespace Go.Proofs.Ytjnjhfificpbbaa
open Go Go.RowKit

set_option maxRecDepth 100000 in
set_option maxHeartbeats 4000000 in
theorem central_any {B c m : Nat} {n : Int} {vg vl : Value} {G L : List (List Int)} {a : List Int} {w : World} (h : Clo B w c m n vg vl G L) (g : Grp G L) (ha : El a) :
    Calls Try.prog 62 #[.pointer (some ⟨c, 0, none⟩), .agg (u8s a)] w fun e w' => ∃ r, e = .returned (.bool r) ∧ Says r (∀ y ∈ G, mulL a y = mulL y a) ∧ Below w.heap.size w w' := by
  have HC := Lib.hid (h.below ((Below.refl w.heap.size w).alloc (Nat.le_refl _) (.cells (u8s a) 78)))
  have HA := Lib.hid (Blk.new w 78 (u8s a))
  have HB0 := Lib.hid ((Below.refl w.heap.size w).alloc (Nat.le_refl _) (.cells (u8s a) 78))
  have HG := Lib.hid g
  have HEA := Lib.hid ha
  obtain ⟨ag, cg, rfl⟩ := h.rg.slice
  have h0 := HC.out.cells.cell 1
  have hgl := g.glen
  clear h g ha
  go_enter Try.func62, Try.ntmps62
  go_wp2_with fail
  generalize w.alloc (.cells (u8s a) 78) = w1 at *
  go_loopw [12] (fun i wr => ∃ k : Nat, i = .int .i64 k ∧ k ≤ G.length ∧ Hid (∀ i, i < k → mulL a (G.getD i []) = mulL (G.getD i []) a) ∧ Hid (Below w1.heap.size w1 wr)) (fun i _ => G.length - (intOf i).toNat)
  case atStart => exact ⟨0, rfl, Nat.zero_le _, Lib.hid (fun i hi => by omega), Lib.hid (Below.refl _ _)⟩
  case round =>
    clear h0
    obtain ⟨k, rfl, hk, HT, HB⟩ := hrel
    by_cases hlt : k < G.length
    · obtain ⟨gg, cg', hag⟩ := HC.out.rg.form (by omega)
      cases hag
      have hr := (HC.out.below HB.out).rg.range (fun x hx => (HG.out.gels x hx).2) k hlt
      obtain ⟨b, hb⟩ : ∃ b, b = G.getD k [] := ⟨_, rfl⟩
      have hEb : El b := by rw [hb]; exact HG.out.gels _ (getD_mem hlt)
      rw [← hb] at hr
      have HR := Lib.hid hr
      have HBB := Lib.hid hb
      have HE := Lib.hid hEb
      have HR0 := Lib.hid (Blk.new wr 78 #[.int .u8 0, .int .u8 0, .int .u8 0, .int .u8 0, .int .u8 0, .int .u8 0, .int .u8 0])
      have HRX := Lib.hid (Blk.setRow HR0.out (u8s b))
      have HBX := Lib.hid (below_row ((Below.refl wr.heap.size wr).alloc (Nat.le_refl _) (.cells #[.int .u8 0, .int .u8 0, .int .u8 0, .int .u8 0, .int .u8 0, .int .u8 0, .int .u8 0] 78)) wr.heap.size (u8s b) (Nat.le_refl _))
      have HQX := Lib.hid ((HA.out.below HB.out).below HBX.out)
      have HBY := Lib.hid (HB.out.trans (HBX.out.mono HB.out.size))
      clear hb hr hEb
      go_wp2_with (first | (refine wpList_load_mid rfl 78 _ rfl gg (k * 7) rfl (b.map (Value.int .u8)) _ HR.out Try.underlying78 rfl (info7 HE.out) ?_) | (refine wpList_store_row rfl 78 _ _ rfl wr.heap.size (u8s b) rfl rfl 78 #[.int .u8 0, .int .u8 0, .int .u8 0, .int .u8 0, .int .u8 0, .int .u8 0, .int .u8 0] HR0.out (infoElem' HE.out.2) (by rw [size_u8s, HE.out.2]; rfl) (u8s_one b) ?_))
      generalize (wr.alloc (.cells #[.int .u8 0, .int .u8 0, .int .u8 0, .int .u8 0, .int .u8 0, .int .u8 0, .int .u8 0] 78)).setRow wr.heap.size (u8s b) = W at *
      obtain ⟨z, hz⟩ : ∃ z, z = decide (mulL a b = mulL b a) := ⟨_, rfl⟩
      have HZ := Lib.hid hz
      have HM1 := Lib.hid (HEA.out.mul HE.out)
      have HM2 := Lib.hid (HE.out.mul HEA.out)
      clear hz HR HR0 HBX HB
      simp [Act.put]
      refine wp_region_held_all (S := fun w' => Below W.heap.size W w') (by kernel_rfl) ?_
      have hS : Below W.heap.size W W.drew := below_drewN' (Below.refl _ _) 1
      refine held_take (i := 0) (v := .agg (u8s a)) rfl rfl (by kernel_rfl) (by kernel_rfl) (by kernel_rfl) (fun w' h => run_row_op 78 _ rfl w.heap.size rfl 78 (u8s a) (0, 0) _ (HQX.out.below h) Try.underlying78 rfl (infoElem' HEA.out.2)) hS ?_
      refine held_take (i := 1) (v := .agg (u8s b)) rfl rfl (by kernel_rfl) (by kernel_rfl) (by kernel_rfl) (fun w' h => run_row_op 78 _ rfl wr.heap.size rfl 78 (u8s b) (0, 0) _ (HRX.out.below h) Try.underlying78 rfl (infoElem' HE.out.2)) hS ?_
      refine held_take (i := 3) (v := .agg (u8s b)) rfl rfl (by kernel_rfl) (by kernel_rfl) (by kernel_rfl) (fun w' h => run_row_op 78 _ rfl wr.heap.size rfl 78 (u8s b) (0, 0) _ (HRX.out.below h) Try.underlying78 rfl (infoElem' HE.out.2)) hS ?_
      refine held_take (i := 4) (v := .agg (u8s a)) rfl rfl (by kernel_rfl) (by kernel_rfl) (by kernel_rfl) (fun w' h => run_row_op 78 _ rfl w.heap.size rfl 78 (u8s a) (0, 0) _ (HQX.out.below h) Try.underlying78 rfl (infoElem' HEA.out.2)) hS ?_
      simp [Act.put]
      refine held_only (i := 2) rfl rfl (by kernel_rfl) (wp_call_any 83 Try.func83 (by kernel_rfl) rfl _ _ rfl #[.agg (u8s a), .agg (u8s b)] rfl ((times_any a b W.drew HEA.out.e7 HE.out.e7).mono ?_))
      rintro e w5 ⟨rfl, hb5⟩
      have hS5 : Below W.heap.size W w5 := hS.trans (hb5.mono hS.size)
      refine ⟨_, rfl, hS5, ?_⟩
      clear hb5
      simp [Act.put]
      refine held_only (i := 5) rfl rfl (by kernel_rfl) (wp_call_any 83 Try.func83 (by kernel_rfl) rfl _ _ rfl #[.agg (u8s b), .agg (u8s a)] rfl ((times_any b a w5 HE.out.e7 HEA.out.e7).mono ?_))
      rintro e w6 ⟨rfl, hb6⟩
      have hS6 : Below W.heap.size W w6 := hS5.trans (hb6.mono hS5.size)
      refine ⟨_, rfl, hS6, ?_⟩
      clear hb6
      simp [Act.put]
      refine held_take (i := 6) (v := .bool (!z)) rfl rfl (by kernel_rfl) (by kernel_rfl) (by kernel_rfl) (fun w' h => by rw [HZ.out]; exact run_neq_op _ _ _ rfl (mulL a b) (mulL b a) rfl rfl HM1.out.2 HM2.out.2) hS6 ?_
      refine held_done (by kernel_rfl) ?_
      have HB2 := Lib.hid (HBY.out.trans (hS6.mono HBY.out.size))
      clear hS hS5 hS6
      simp [Act.put]
      cases z with
      | true =>
        have HT2 := Lib.hid (show ∀ i, i < k + 1 → mulL a (G.getD i []) = mulL (G.getD i []) a from fun i hi => by
          by_cases e : i = k
          · subst e; rw [← HBB.out]; exact of_decide_eq_true HZ.out.symm
          · exact HT.out i (by omega))
        go_wp2_with fail
        go_roundw
        case rel => exact ⟨k + 1, by go_num, by omega, HT2, HB2⟩
        case measure => simp [intOf]; omega
      | false =>
        have HS := Lib.hid (show Says false (∀ y ∈ G, mulL a y = mulL y a) from Says.no fun hp => of_decide_eq_false HZ.out.symm (by rw [HBB.out]; exact hp _ (getD_mem hlt)))
        go_wp2_with fail
        go_ret
        exact ⟨false, rfl, HS.out, HB0.out.trans (HB2.out.mono HB0.out.size)⟩
    · have HS := Lib.hid (show Says true (∀ y ∈ G, mulL a y = mulL y a) from Says.yes fun g hg => by
        obtain ⟨i, hi, rfl⟩ := List.getElem_of_mem hg
        have := HT.out i (by omega)
        simpa [hi] using this)
      go_wp2_with fail
      go_ret
      exact ⟨true, rfl, HS.out, HB0.out.trans (HB.out.mono HB0.out.size)⟩

theorem wpList_build_el {ops : Array Oper} {rest : List Oper} {o : Oper} {a : Act} {w : World} {Q : Exit → Act → World → Prop} (hgd : o.guard = none) (x : Operand) (ho : o.op = .buildSlice 72 1 #[(0, x)]) (e : List Int) (he : e.length = 7) (hx : a.eval x = .agg (u8s e))
    (h : wpList Try.prog ops Q rest (a.put o.dst (.slice (some ⟨w.heap.size, 0, none⟩) 1 1)) (w.alloc (.cells (u8s e) 78))) : wpList Try.prog ops Q (o :: rest) a w :=
  wpList_plain hgd fun _ hK => wp_build_el x ho e he hx (hK _ _ h)
theorem wpList_append_el {ops : Array Oper} {rest : List Oper} {o : Oper} {a : Act} {w : World} {Q : Exit → Act → World → Prop} (hgd : o.guard = none) (s x : Operand) (ho : o.op = .call { callee := .builtin .append, args := #[s, x], argTypes := #[72, 72] })
    (B : Nat) (v : Value) (L : List (List Int)) (hs : a.eval s = v) (hO : Oel B w v L) (g : Nat) (e : List Int) (he : e.length = 7) (hx : a.eval x = .slice (some ⟨g, 0, none⟩) 1 1) (hg : Blk w g 78 (u8s e))
    (hl : L.length ≤ 1000000) (hB : B ≤ w.heap.size)
    (h : ∀ v' w', Oel B w' v' (L ++ [e]) → w.grownBy w' v.ownBlock → (v'.ownBlock = v.ownBlock ∨ v'.ownBlock = some w.heap.size) → wpList Try.prog ops Q rest (a.put o.dst v') w') : wpList Try.prog ops Q (o :: rest) a w :=
  wpList_plain hgd fun _ hK => wp_append_el s x ho B v L hs hO g e he hx hg hl hB fun v' w' h1 h2 h3 => hK _ _ (h v' w' h1 h2 h3)

/-- the central elements among the first k -/
def cenTo (G L : List (List Int)) (k : Nat) : List (List Int) := (L.take k).filter fun a => decide (∀ y ∈ G, mulL a y = mulL y a)
theorem cenTo_succ {G L : List (List Int)} {k : Nat} (hk : k < L.length) : cenTo G L (k + 1) = cenTo G L k ++ (if ∀ y ∈ G, mulL (L.getD k []) y = mulL y (L.getD k []) then [L.getD k []] else []) := by
  unfold cenTo
  rw [List.take_succ_eq_append_getElem hk, List.filter_append]
  have e : L.getD k [] = L[k] := by simp [hk]
  rw [e]
  by_cases h : ∀ y ∈ G, mulL L[k] y = mulL y L[k]
  · rw [if_pos h]; simp; exact h
  · rw [if_neg h]; simp; simpa using h
theorem cenTo_len (G L : List (List Int)) (k : Nat) : (cenTo G L k).length ≤ L.length := by
  unfold cenTo
  exact Nat.le_trans (List.length_filter_le _ _) (by rw [List.length_take]; omega)
theorem Oel.below' {B : Nat} {w w' : World} {v : Value} {L : List (List Int)} (h : Oel B w v L) (hb : Below w.heap.size w w') : Oel B w' v L := row_below h hb

set_option maxRecDepth 100000 in
set_option maxHeartbeats 4000000 in
theorem Center_ok (u : Value) (ps : List (List Int)) (w : World) (h : Sps w u ps) (hp : IsGrp ps) :
    Calls Try.prog 25 #[u] w fun e w' => Below w.heap.size w w' ∧ ∃ x G L L', e = .returned (.tuple #[x, .int .i64 0]) ∧ Grp G L ∧ (∀ a, a ∈ L ↔ Gen (pks ps) a) ∧ L'.Perm (cenTo G L L.length) ∧ Asc L' ∧ Owp w.heap.size w' x (L'.map (List.take (ps.getD 0 []).length)) := by
  have HH := Lib.hid h
  have HP := Lib.hid hp
  obtain ⟨a, cap, rfl, _⟩ := h
  obtain ⟨l, hl⟩ : ∃ l, l = ps.length := ⟨_, rfl⟩
  rw [← hl] at HH ⊢
  obtain ⟨n, hn⟩ : ∃ n, n = (ps.getD 0 []).length := ⟨_, rfl⟩
  have HN := Lib.hid hn
  rw [← hn]
  have h7 : n ≤ 7 := by rw [hn]; exact hp.seven
  clear hp hl hn
  go_enter Try.func25, Try.ntmps25
  go_wp2_with fail
  refine (closedOf_any _ ps _ HH.out HP.out.small).mono ?_
  rintro e w1 ⟨hb1, hcase⟩
  obtain ⟨_, c, m, vg, vl, G, L, rfl, ho, hm⟩ := hcase.resolve_left (fun h => h.1 HP.out)
  rw [← HN.out] at ho
  have hlen := ho.grp.len
  have h0 : 0 < L.length := List.length_pos_of_mem ho.grp.one
  obtain ⟨gl, cl, rfl⟩ := ho.clo.rl.form h0
  have HO := Lib.hid ho.clo
  have HG := Lib.hid ho.grp
  have HM := Lib.hid hm
  have HB1 := Lib.hid hb1
  have k2 := ho.clo.cells.cell 2
  clear ho hm hb1 hcase
  go_wp2_with fail
  clear k2
  go_loopw [6, 22] (fun v i wr => ∃ k : Nat, i = .int .i64 k ∧ k ≤ L.length ∧ Hid (Oel w1.heap.size wr v (cenTo G L k)) ∧ Hid (Below w1.heap.size w1 wr)) (fun _ i _ => L.length - (intOf i).toNat)
  case atStart => exact ⟨0, rfl, Nat.zero_le _, Lib.hid (World.ownsRow_nil _ _ _ _), Lib.hid (Below.refl _ _)⟩
  case round =>
    obtain ⟨k, rfl, hk, HV, HB⟩ := hrel
    by_cases hlt : k < L.length
    · have hr := (HO.out.below HB.out).rl.range (fun x hx => (HG.out.els x hx).2) k hlt
      obtain ⟨b, hb⟩ : ∃ b, b = L.getD k [] := ⟨_, rfl⟩
      have hEb : El b := by rw [hb]; exact HG.out.els _ (getD_mem hlt)
      rw [← hb] at hr
      have hcs := cenTo_succ (G := G) hlt
      rw [← hb] at hcs
      have HR := Lib.hid hr
      have HE := Lib.hid hEb
      have HCs := Lib.hid hcs
      have HR0 := Lib.hid (Blk.new wr 78 #[.int .u8 0, .int .u8 0, .int .u8 0, .int .u8 0, .int .u8 0, .int .u8 0, .int .u8 0])
      have HRX := Lib.hid (Blk.setRow HR0.out (u8s b))
      have HBX := Lib.hid (below_row ((Below.refl wr.heap.size wr).alloc (Nat.le_refl _) (.cells #[.int .u8 0, .int .u8 0, .int .u8 0, .int .u8 0, .int .u8 0, .int .u8 0, .int .u8 0] 78)) wr.heap.size (u8s b) (Nat.le_refl _))
      have HBY := Lib.hid (HB.out.trans (HBX.out.mono HB.out.size))
      have HCX := Lib.hid ((HO.out.below HB.out).below HBX.out)
      have HVX := Lib.hid (HV.out.below' HBX.out)
      clear hb hr hEb hcs
      go_wp2_with (first | (refine wpList_load_mid rfl 78 _ rfl gl (k * 7) rfl (b.map (Value.int .u8)) _ HR.out Try.underlying78 rfl (info7 HE.out) ?_) | (refine wpList_store_row rfl 78 _ _ rfl wr.heap.size (u8s b) rfl rfl 78 #[.int .u8 0, .int .u8 0, .int .u8 0, .int .u8 0, .int .u8 0, .int .u8 0, .int .u8 0] HR0.out (infoElem' HE.out.2) (by rw [size_u8s, HE.out.2]; rfl) (u8s_one b) ?_) | (refine wpList_load_row rfl 78 _ rfl wr.heap.size rfl 78 (u8s b) (0, 0) _ HRX.out Try.underlying78 rfl (infoElem' HE.out.2) ?_))
      generalize (wr.alloc (.cells #[.int .u8 0, .int .u8 0, .int .u8 0, .int .u8 0, .int .u8 0, .int .u8 0, .int .u8 0] 78)).setRow wr.heap.size (u8s b) = W at *
      refine (central_any HCX.out HG.out HE.out).mono ?_
      rintro e w2 ⟨r, rfl, hr, hb2⟩
      have HB2 := Lib.hid (HBY.out.trans (hb2.mono HBY.out.size))
      have HQ2 := Lib.hid (HRX.out.below hb2)
      have HV2 := Lib.hid (HVX.out.below' hb2)
      have HRr := Lib.hid hr
      clear hr hb2 HR HR0 HBX HB HV HBY HCX HVX HRX
      cases r with
      | true =>
        have HC2 := Lib.hid (show cenTo G L (k + 1) = cenTo G L k ++ [b] from by rw [HCs.out, if_pos (HRr.out.1 rfl)])
        have hcl := cenTo_len G L k
        obtain ⟨C, hC⟩ : ∃ C, C = cenTo G L k := ⟨_, rfl⟩
        rw [← hC] at HC2 HV2 hcl
        have hz := HB2.out.size
        have HE2 := Lib.hid (Blk.new w2 78 (u8s b))
        have HV3 := Lib.hid (HV2.out.below' ((Below.refl w2.heap.size w2).alloc (Nat.le_refl _) (.cells (u8s b) 78)))
        have HB3 := Lib.hid (HB2.out.alloc hz (.cells (u8s b) 78))
        clear hC
        go_wp2_with (first | (refine wpList_load_row rfl 78 _ rfl wr.heap.size rfl 78 (u8s b) (0, 0) _ HQ2.out Try.underlying78 rfl (infoElem' HE.out.2) ?_) | (refine wpList_build_el rfl _ rfl b HE.out.2 rfl ?_) | (at_builtin; go_loud (refine wpList_append_el rfl _ _ rfl w1.heap.size u6 C rfl HV3.out w2.heap.size b HE.out.2 rfl HE2.out (by omega) (by rw [World.size_alloc]; omega) ?_; intro v' w4 hown hgrow _)))
        have T1 := Lib.hid (show Oel w1.heap.size w4 v' (cenTo G L (k + 1)) from by rw [HC2.out]; exact hown)
        have TB := Lib.hid (HB3.out.grown hgrow (by rw [World.size_alloc]; omega) (fun r e => (World.ownsRow.lt HV3.out r e).1))
        clear hown hgrow
        go_wp2
        go_roundw
        case rel => exact ⟨k + 1, by go_num, by omega, T1, TB⟩
        case measure => simp [intOf]; omega
      | false =>
        have T1 := Lib.hid (show Oel w1.heap.size w2 u6 (cenTo G L (k + 1)) from by
          rw [HCs.out, if_neg (fun h => by have := HRr.out.2 h; cases this), List.append_nil]; exact HV2.out)
        go_wp2_with fail
        go_roundw
        case rel => exact ⟨k + 1, by go_num, by omega, T1, HB2⟩
        case measure => simp [intOf]; omega
    · have hke : k = L.length := by omega
      have HV1 := Lib.hid (show Oel w1.heap.size wr u6 (cenTo G L L.length) from by rw [← hke]; exact HV.out)
      have hE : ∀ x ∈ cenTo G L L.length, El x := fun x hx => by
        unfold cenTo at hx
        rw [List.take_length] at hx
        exact HG.out.els x (List.mem_filter.1 hx).1
      have h1 : idL 7 ∈ cenTo G L L.length := by
        unfold cenTo
        rw [List.take_length]
        exact List.mem_filter.2 ⟨HG.out.one, decide_eq_true fun y hy => by rw [(HG.out.gels y hy).one_mul, (HG.out.gels y hy).mul_one]⟩
      have hpos := List.length_pos_of_mem h1
      have hcl := cenTo_len G L L.length
      have HE := Lib.hid hE
      have HPos := Lib.hid hpos
      have HCl := Lib.hid (show (cenTo G L L.length).length ≤ 900000 by omega)
      obtain ⟨va, vc, rfl⟩ := HV1.out.slice
      clear hE h1 hpos hcl hke HV
      obtain ⟨lc, hlc⟩ : ∃ lc, lc = (cenTo G L L.length).length := ⟨_, rfl⟩
      rw [← hlc] at HV1 ⊢
      clear hlc
      go_wp2_with fail
      refine wp_region_held_all (S := fun w' => Below wr.heap.size wr w') (by kernel_rfl) ?_
      have hS : Below wr.heap.size wr wr.drew := below_drewN' (Below.refl _ _) 1
      refine held_take (i := 0) (v := .slice va lc vc) rfl rfl (by kernel_rfl) (by kernel_rfl) (by kernel_rfl) (fun w' h => by go_simp) hS ?_
      refine held_take (i := 2) (v := .pointer (some ⟨c, 0, none⟩)) rfl rfl (by kernel_rfl) (by kernel_rfl) (by kernel_rfl) (fun w' h => by go_simp) hS ?_
      refine held_take (i := 3) (v := .pointer (some ⟨c, 0, none⟩)) rfl rfl (by kernel_rfl) (by kernel_rfl) (by kernel_rfl) (fun w' h => by go_simp) hS ?_
      refine held_take (i := 4) (v := .pointer (some ⟨c, 0, none⟩)) rfl rfl (by kernel_rfl) (by kernel_rfl) (by kernel_rfl) (fun w' h => by go_simp) hS ?_
      simp [Act.put]
      refine held_take (i := 5) (v := .int .i64 n) rfl rfl (by kernel_rfl) (by kernel_rfl) (by kernel_rfl) (fun w' h => by have h1 := ((HO.out.below HB.out).cells.below h).cell 0; go_simp) hS ?_
      refine held_only (i := 1) rfl rfl (by kernel_rfl) (wp_call_any 64 Try.func64 (by kernel_rfl) rfl _ _ rfl #[.slice va lc vc] rfl ((sorted_any (HV1.out.below' hS) HE.out HPos.out HCl.out).mono ?_))
      rintro e w5 ⟨v1, L', rfl, hp, ha, hO1, hb5⟩
      have hS5 : Below wr.heap.size wr w5 := hS.trans (hb5.mono hS.size)
      refine ⟨_, rfl, hS5, ?_⟩
      have HO1 := Lib.hid hO1
      have HPm := Lib.hid hp
      have HA := Lib.hid ha
      have HE' := Lib.hid (show ∀ x ∈ L', E7 x from fun x hx => (HE.out x (hp.mem_iff.1 hx)).e7)
      have hl' : L'.length ≤ 900000 := by rw [hp.length_eq]; exact HCl.out
      obtain ⟨g1, c1, rfl⟩ := hO1.form (by rw [hp.length_eq]; exact HPos.out)
      clear hO1 hp ha hb5
      simp [Act.put]
      refine held_only (i := 6) rfl rfl (by kernel_rfl) (wp_call_any 63 Try.func63 (by kernel_rfl) rfl _ _ rfl #[.slice (some ⟨g1, 0, none⟩) L'.length c1, .int .i64 n] rfl ((unpackAll_any _ _ L' n w5 HO1.out HE'.out h7 hl').mono ?_))
      rintro e w6 ⟨x, rfl, hx, hb6⟩
      have hS6 : Below wr.heap.size wr w6 := hS5.trans (hb6.mono hS5.size)
      refine ⟨_, rfl, hS6, ?_⟩
      have hz := (HB1.out.trans ((HB.out.trans (hS5.mono HB.out.size)).mono HB1.out.size)).size
      have HX := Lib.hid (hx.mono hz)
      have HB6 := Lib.hid (HB1.out.trans ((HB.out.trans (hS6.mono HB.out.size)).mono HB1.out.size))
      clear hx hb6 hz
      simp [Act.put]
      refine held_take (i := 7) (v := x) rfl rfl (by kernel_rfl) (by kernel_rfl) (by kernel_rfl) (fun w' h => by go_simp) hS6 ?_
      refine held_take (i := 8) (v := .int .i64 0) rfl rfl (by kernel_rfl) (by kernel_rfl) (by kernel_rfl) (fun w' h => by go_simp) hS6 ?_
      refine held_done (by kernel_rfl) ?_
      clear hS hS5 hS6
      simp [Act.put]
      go_wp2_with fail
      go_ret2
      exact ⟨HB6.out, x, G, L, L', rfl, HG.out, HM.out, HPm.out, HA.out, HX.out⟩
end Go.Proofs.Ytjnjhfificpbbaa
namespace Go.Proofs.Ytjnjhfificpbbaa
open Go Go.RowKit

/-- lists of permutations equal where they have the same members -/
theorem perms_list {n : Nat} {L L' q : List (List Int)} (hp : L'.Perm L) (ha : Asc L') (hn : L.Nodup) (hq : q.Pairwise fun a b => cmpLex a b < 0) (hl : ∀ p ∈ q, p.length = n) (hm : ∀ a, a ∈ L ↔ a ∈ pks q) : L'.map (List.take n) = q := by
  obtain ⟨e1, e2⟩ := pks_rise hl hq
  have e : L' = pks q := asc_uniq (hp.nodup_iff.2 hn) e1 ha e2 fun a => hp.mem_iff.trans (hm a)
  rw [e, pks_take hl]
/-- the central permutations of a list -/
def cenL (ps : List (List Int)) : List (List Int) := ps.filter fun p => decide (∀ r ∈ ps, mulL p r = mulL r p)
def cenLTo (ps : List (List Int)) (k : Nat) : List (List Int) := (ps.take k).filter fun p => decide (∀ r ∈ ps, mulL p r = mulL r p)
theorem cenLTo_succ {ps : List (List Int)} {k : Nat} (hk : k < ps.length) : cenLTo ps (k + 1) = cenLTo ps k ++ (if ∀ r ∈ ps, mulL (ps.getD k []) r = mulL r (ps.getD k []) then [ps.getD k []] else []) := by
  unfold cenLTo
  rw [List.take_succ_eq_append_getElem hk, List.filter_append]
  have e : ps.getD k [] = ps[k] := by simp [hk]
  rw [e]
  by_cases h : ∀ y ∈ ps, mulL ps[k] y = mulL y ps[k]
  · rw [if_pos h]; simp; exact h
  · rw [if_neg h]; simp; simpa using h
theorem cenLTo_len (ps : List (List Int)) (k : Nat) : (cenLTo ps k).length ≤ ps.length := by
  unfold cenLTo
  exact Nat.le_trans (List.length_filter_le _ _) (by rw [List.length_take]; omega)
theorem cenLTo_all (ps : List (List Int)) : cenLTo ps ps.length = cenL ps := by unfold cenLTo cenL; rw [List.take_length]
theorem gen_central {G : List (List Int)} {a y : List Int} (hg : Els G) (ha : El a) (h : ∀ y ∈ G, mulL a y = mulL y a) (hy : Gen G y) : mulL a y = mulL y a := by
  induction hy with
  | one => rw [ha.mul_one, ha.one_mul]
  | step hb hm ih =>
    have hb' := hb.el hg
    rw [← ha.assoc _ hb', ih, hb'.assoc _ ha, h _ hm, ← hb'.assoc _ (hg _ hm)]
/-- the program's center and the reference's -/
theorem center_match {ps G L : List (List Int)} (hp : IsGrp ps) (g : Grp G L) (hm : ∀ a, a ∈ L ↔ Gen (pks ps) a) (a : List Int) : a ∈ cenTo G L L.length ↔ a ∈ pks (cenL ps) := by
  unfold cenTo
  rw [List.take_length, List.mem_filter]
  have hcom : ∀ {p r : List Int}, p ∈ ps → r ∈ ps → (mulL p r = mulL r p ↔ mulL (pk7 p) (pk7 r) = mulL (pk7 r) (pk7 p)) := fun {p r} h1 h2 => by
    obtain ⟨v1, l1⟩ := hp.1.mem h1
    obtain ⟨v2, l2⟩ := hp.1.mem h2
    rw [← pk7_mul v1 v2 (l1.trans l2.symm), ← pk7_mul v2 v1 (l2.trans l1.symm)]
    exact ⟨fun h => by rw [h], fun h => pk7_same (by rw [length_mulL, length_mulL]; exact l1.trans l2.symm) h⟩
  constructor
  · rintro ⟨h1, h2⟩
    have h2 := of_decide_eq_true h2
    obtain ⟨p, hp', rfl⟩ := List.mem_map.1 (hp.2.2 a ((hm a).1 h1))
    refine List.mem_map.2 ⟨p, List.mem_filter.2 ⟨hp', decide_eq_true fun r hr => (hcom hp' hr).2 ?_⟩, rfl⟩
    exact gen_central g.gels (g.els _ h1) h2 ((g.mem _).1 ((hm _).2 (Gen.of_mem hp.1.els (List.mem_map.2 ⟨r, hr, rfl⟩))))
  · intro h
    obtain ⟨p, hp', rfl⟩ := List.mem_map.1 h
    obtain ⟨h1, h2⟩ := List.mem_filter.1 hp'
    have h2 := of_decide_eq_true h2
    refine ⟨(hm _).2 (Gen.of_mem hp.1.els (List.mem_map.2 ⟨p, h1, rfl⟩)), decide_eq_true fun y hy => ?_⟩
    obtain ⟨r, hr, rfl⟩ := List.mem_map.1 (hp.2.2 y ((hm y).1 (g.sub y hy)))
    exact (hcom h1 hr).1 (h2 r hr)

/-- a row of the call's own of slices that came in -/
def RowS (B : Nat) (w wr : World) (v : Value) (qs : List (List Int)) : Prop := ∃ vs : List Value, vs.length = qs.length ∧ wr.ownsRow B 32 1 v qs.length vs ∧ ∀ i, i < qs.length → Sl w (vs.getD i undef) (qs.getD i [])
theorem RowS.sps {B : Nat} {w wr : World} {v : Value} {qs : List (List Int)} (h : RowS B w wr v qs) (hb : Below w.heap.size w wr) : Sps wr v qs := by
  obtain ⟨vs, h1, h2, h3⟩ := h
  rcases h2.2 with ⟨e, h0⟩ | ⟨g, cap, cur, e, _⟩
  · exact ⟨none, 0, by rw [e, h0], .inl (List.length_eq_zero_iff.1 h0)⟩
  · subst e
    refine ⟨_, cap, rfl, .inr ⟨g, 0, rfl, fun i hi => ⟨vs.getD i undef, ?_, (h3 i hi).below hb⟩⟩⟩
    rw [Nat.zero_add, World.ownsRow.cellAt h2 i (by omega)]
    simp [show i < vs.length by omega]

set_option maxRecDepth 100000 in
set_option maxHeartbeats 8000000 in
theorem refCen_any (v : Value) (ps : List (List Int)) (w : World) (h : Sps w v ps) (hg : GenP ps) :
    Calls Try.prog 34 #[v] w fun e w' => ∃ x, e = .returned x ∧ RowS w.heap.size w w' x (cenL ps) ∧ Below w.heap.size w w' := by
  obtain ⟨i1, hq, hq0, hq1, hq2⟩ := info_parts infoPerm3
  obtain ⟨n, hn⟩ : ∃ n, n = (ps.getD 0 []).length := ⟨_, rfl⟩
  have hv0 := (validL_iff _).1 (hg.2.2 0 hg.1).1
  rw [← hn] at hv0
  have h1 := hv0.1
  have h7 := hv0.2.1
  obtain ⟨a, cap, rfl, h⟩ := h
  obtain ⟨m, hm⟩ : ∃ m, m = ps.length := ⟨_, rfl⟩
  have hm1 : 1 ≤ m := by rw [hm]; exact hg.1
  have hm2 : m ≤ 5040 := by rw [hm]; exact hg.2.1
  rcases h with h | ⟨b, off, rfl, h⟩
  · rw [h] at hm; simp at hm; omega
  obtain ⟨x0, g0, _⟩ := h 0 (by omega)
  have hbw : b < w.heap.size := World.block_lt_of_cell? w _ g0
  have HC := Lib.hid h
  have HM := Lib.hid hm
  have HN := Lib.hid hn
  have HG := Lib.hid hg
  have HAll := Lib.hid (cenLTo_all ps)
  rw [← hm] at HAll ⊢
  clear hg hv0 h hm hn g0
  go_enter Try.func34, Try.ntmps34
  go_wp2_with fail
  go_loopw [3, 4] (fun ov iv wr => ∃ i : Nat, iv = .int .i64 i ∧ i ≤ m ∧ Hid (RowS w.heap.size w wr ov (cenLTo ps i)) ∧ Hid (Below w.heap.size w wr)) (fun _ iv _ => m - (intOf iv).toNat)
  case atStart => exact ⟨0, rfl, Nat.zero_le _, Lib.hid ⟨[], rfl, World.ownsRow_nil _ _ _ _, fun i hi => by simp [cenLTo] at hi⟩, Lib.hid (Below.refl _ _)⟩
  case round =>
    obtain ⟨i, rfl, hi, HR, HB⟩ := hrel
    by_cases hli : i < m
    · obtain ⟨wo, rfl⟩ : ∃ wo, wo = wr := ⟨wr, rfl⟩
      obtain ⟨x, x0, sx⟩ := HC.out i (by rw [← HM.out]; omega)
      obtain ⟨pv, pl⟩ := HG.out.2.2 i (by rw [← HM.out]; omega)
      rw [← HN.out] at pl
      have hcs := cenLTo_succ (ps := ps) (k := i) (by rw [← HM.out]; exact hli)
      obtain ⟨p, hp⟩ : ∃ p, p = ps.getD i [] := ⟨_, rfl⟩
      rw [← hp] at sx pv pl hcs
      obtain ⟨xa, xc, e1, _⟩ := id sx
      rw [pl] at e1
      subst e1
      have SX := Lib.hid (sx.below HB.out)
      have SX0 := Lib.hid sx
      have CX := Lib.hid (show ∀ w', Below wo.heap.size wo w' → w'.cell? ⟨b, off + i, none⟩ = some (.slice xa n xc) from fun w' h => ((HB.out.trans (h.mono HB.out.size)).cell (p := ⟨b, off + i, none⟩) hbw).trans x0)
      have PV := Lib.hid pv
      have PL := Lib.hid pl
      have HP := Lib.hid hp
      have HCs := Lib.hid hcs
      clear x0 sx pv pl hp hcs
      go_wp2_with fail
      go_loopw [5, 6] (fun av kv wr => ∃ (k : Nat) (z : Bool), kv = .int .i64 k ∧ av = .bool z ∧ k ≤ m ∧ Hid (z = true ↔ ∀ j, j < k → mulL p (ps.getD j []) = mulL (ps.getD j []) p) ∧ Hid (Below wo.heap.size wo wr)) (fun _ kv _ => m - (intOf kv).toNat)
      case atStart => exact ⟨0, true, rfl, rfl, Nat.zero_le _, Lib.hid ⟨fun _ j hj => by omega, fun _ => rfl⟩, Lib.hid (Below.refl _ _)⟩
      case round =>
        obtain ⟨k, z, rfl, rfl, hk, HZ, HB2⟩ := hrel
        by_cases hlk : k < m
        · obtain ⟨y, y0, sy⟩ := HC.out k (by rw [← HM.out]; omega)
          obtain ⟨qv, ql⟩ := HG.out.2.2 k (by rw [← HM.out]; omega)
          rw [← HN.out] at ql
          obtain ⟨q, hq'⟩ : ∃ q, q = ps.getD k [] := ⟨_, rfl⟩
          rw [← hq'] at sy qv ql
          obtain ⟨ya, yc, e2, _⟩ := id sy
          rw [ql] at e2
          subst e2
          have SY := Lib.hid (sy.below HB.out)
          have CY := Lib.hid (show ∀ w', Below wo.heap.size wo w' → w'.cell? ⟨b, off + k, none⟩ = some (.slice ya n yc) from fun w' h => ((HB.out.trans (h.mono HB.out.size)).cell (p := ⟨b, off + k, none⟩) hbw).trans y0)
          have QV := Lib.hid qv
          have QL := Lib.hid ql
          have HQ := Lib.hid hq'
          clear y0 sy qv ql hq'
          have hS : Below wo.heap.size wo wr.drew := below_drewN' HB2.out 1
          cases z with
          | false =>
            go_wp2_with fail
            refine wp_region_held_all (S := fun w' => Below wo.heap.size wo w') (by kernel_rfl) ?_
            refine held_take (i := 0) (v := .bool false) rfl rfl (by kernel_rfl) (by kernel_rfl) (by kernel_rfl) (fun w' h => by go_simp) hS ?_
            refine held_take (i := 1) (v := .bool false) rfl rfl (by kernel_rfl) (by kernel_rfl) (by kernel_rfl) (fun w' h => by go_simp) hS ?_
            simp [Act.put]
            refine held_skip (i := 2) rfl (by kernel_rfl) (by kernel_rfl) (by kernel_rfl) (by kernel_rfl) hS ?_
            refine held_skip (i := 3) rfl (by kernel_rfl) (by kernel_rfl) (by kernel_rfl) (by kernel_rfl) hS ?_
            refine held_skip (i := 4) rfl (by kernel_rfl) (by kernel_rfl) (by kernel_rfl) (by kernel_rfl) hS ?_
            refine held_skip (i := 5) rfl (by kernel_rfl) (by kernel_rfl) (by kernel_rfl) (by kernel_rfl) hS ?_
            refine held_skip (i := 6) rfl (by kernel_rfl) (by kernel_rfl) (by kernel_rfl) (by kernel_rfl) hS ?_
            simp [Act.put]
            refine held_skip (i := 7) rfl (by kernel_rfl) (by kernel_rfl) (by kernel_rfl) (by kernel_rfl) hS ?_
            refine held_skip (i := 8) rfl (by kernel_rfl) (by kernel_rfl) (by kernel_rfl) (by kernel_rfl) hS ?_
            refine held_skip (i := 9) rfl (by kernel_rfl) (by kernel_rfl) (by kernel_rfl) (by kernel_rfl) hS ?_
            refine held_skip (i := 10) rfl (by kernel_rfl) (by kernel_rfl) (by kernel_rfl) (by kernel_rfl) hS ?_
            refine held_skip (i := 11) rfl (by kernel_rfl) (by kernel_rfl) (by kernel_rfl) (by kernel_rfl) hS ?_
            refine held_skip (i := 12) rfl (by kernel_rfl) (by kernel_rfl) (by kernel_rfl) (by kernel_rfl) hS ?_
            simp [Act.put]
            refine held_skip (i := 13) rfl (by kernel_rfl) (by kernel_rfl) (by kernel_rfl) (by kernel_rfl) hS ?_
            refine held_skip (i := 14) rfl (by kernel_rfl) (by kernel_rfl) (by kernel_rfl) (by kernel_rfl) hS ?_
            refine held_skip (i := 15) rfl (by kernel_rfl) (by kernel_rfl) (by kernel_rfl) (by kernel_rfl) hS ?_
            refine held_skip (i := 16) rfl (by kernel_rfl) (by kernel_rfl) (by kernel_rfl) (by kernel_rfl) hS ?_
            refine held_skip (i := 17) rfl (by kernel_rfl) (by kernel_rfl) (by kernel_rfl) (by kernel_rfl) hS ?_
            simp [Act.put]
            refine held_skip (i := 18) rfl (by kernel_rfl) (by kernel_rfl) (by kernel_rfl) (by kernel_rfl) hS ?_
            refine held_skip (i := 19) rfl (by kernel_rfl) (by kernel_rfl) (by kernel_rfl) (by kernel_rfl) hS ?_
            refine held_skip (i := 20) rfl (by kernel_rfl) (by kernel_rfl) (by kernel_rfl) (by kernel_rfl) hS ?_
            simp [Act.put]
            refine held_take (i := 21) (v := .bool false) rfl rfl (by kernel_rfl) (by kernel_rfl) (by kernel_rfl) (fun w' h => by go_simp) hS ?_
            refine held_take (i := 22) (v := .bool false) rfl rfl (by kernel_rfl) (by kernel_rfl) (by kernel_rfl) (fun w' h => by go_simp) hS ?_
            refine held_done (by kernel_rfl) ?_
            clear hS
            simp [Act.put]
            have HZ2 := Lib.hid (show false = true ↔ ∀ j, j < k + 1 → mulL p (ps.getD j []) = mulL (ps.getD j []) p from ⟨fun h => (by cases h), fun h => HZ.out.2 fun j hj => h j (by omega)⟩)
            have HB3 := Lib.hid (below_drewN' HB2.out 1)
            go_wp2_with fail
            go_roundw
            case rel => exact ⟨k + 1, false, by go_num, rfl, by omega, HZ2, HB3⟩
            case measure => simp [intOf]; omega
          | true =>
            have HIn1 := Lib.hid (show inR p q.length by rw [QL.out, ← PL.out]; exact inR_of_valid PV.out)
            have HIn2 := Lib.hid (show inR q p.length by rw [PL.out, ← QL.out]; exact inR_of_valid QV.out)
            go_wp2_with fail
            refine wp_region_held_all (S := fun w' => Below wo.heap.size wo w') (by kernel_rfl) ?_
            refine held_take (i := 0) (v := .bool true) rfl rfl (by kernel_rfl) (by kernel_rfl) (by kernel_rfl) (fun w' h => by go_simp) hS ?_
            refine held_take (i := 1) (v := .bool true) rfl rfl (by kernel_rfl) (by kernel_rfl) (by kernel_rfl) (fun w' h => by go_simp) hS ?_
            simp [Act.put]
            refine held_take_w (i := 2) (v := .slice (some ⟨b, off, none⟩) m cap) rfl (by kernel_rfl) (by kernel_rfl) (by kernel_rfl) (by kernel_rfl) (fun w' h => by go_simp) hS ?_
            refine held_take_w (i := 3) (v := .int .i64 i) rfl (by kernel_rfl) (by kernel_rfl) (by kernel_rfl) (by kernel_rfl) (fun w' h => by go_simp) hS ?_
            refine held_take_w (i := 4) (v := .pointer (some ⟨b, off + i, none⟩)) rfl (by kernel_rfl) (by kernel_rfl) (by kernel_rfl) (by kernel_rfl) (fun w' h => by go_simp) hS ?_
            refine held_take_w (i := 5) (v := .slice xa n xc) rfl (by kernel_rfl) (by kernel_rfl) (by kernel_rfl) (by kernel_rfl) (fun w' h => by have h1 := CX.out w' h; go_simp) hS ?_
            simp [Act.put]
            refine held_take_w (i := 6) (v := .slice (some ⟨b, off, none⟩) m cap) rfl (by kernel_rfl) (by kernel_rfl) (by kernel_rfl) (by kernel_rfl) (fun w' h => by go_simp) hS ?_
            refine held_take_w (i := 7) (v := .int .i64 k) rfl (by kernel_rfl) (by kernel_rfl) (by kernel_rfl) (by kernel_rfl) (fun w' h => by go_simp) hS ?_
            refine held_take_w (i := 8) (v := .pointer (some ⟨b, off + k, none⟩)) rfl (by kernel_rfl) (by kernel_rfl) (by kernel_rfl) (by kernel_rfl) (fun w' h => by go_simp) hS ?_
            refine held_take_w (i := 9) (v := .slice ya n yc) rfl (by kernel_rfl) (by kernel_rfl) (by kernel_rfl) (by kernel_rfl) (fun w' h => by have h1 := CY.out w' h; go_simp) hS ?_
            simp [Act.put]
            refine held_take_w (i := 11) (v := .slice (some ⟨b, off, none⟩) m cap) rfl (by kernel_rfl) (by kernel_rfl) (by kernel_rfl) (by kernel_rfl) (fun w' h => by go_simp) hS ?_
            refine held_take_w (i := 12) (v := .int .i64 k) rfl (by kernel_rfl) (by kernel_rfl) (by kernel_rfl) (by kernel_rfl) (fun w' h => by go_simp) hS ?_
            refine held_take_w (i := 13) (v := .pointer (some ⟨b, off + k, none⟩)) rfl (by kernel_rfl) (by kernel_rfl) (by kernel_rfl) (by kernel_rfl) (fun w' h => by go_simp) hS ?_
            refine held_take_w (i := 14) (v := .slice ya n yc) rfl (by kernel_rfl) (by kernel_rfl) (by kernel_rfl) (by kernel_rfl) (fun w' h => by have h1 := CY.out w' h; go_simp) hS ?_
            simp [Act.put]
            refine held_take_w (i := 15) (v := .slice (some ⟨b, off, none⟩) m cap) rfl (by kernel_rfl) (by kernel_rfl) (by kernel_rfl) (by kernel_rfl) (fun w' h => by go_simp) hS ?_
            refine held_take_w (i := 16) (v := .int .i64 i) rfl (by kernel_rfl) (by kernel_rfl) (by kernel_rfl) (by kernel_rfl) (fun w' h => by go_simp) hS ?_
            refine held_take_w (i := 17) (v := .pointer (some ⟨b, off + i, none⟩)) rfl (by kernel_rfl) (by kernel_rfl) (by kernel_rfl) (by kernel_rfl) (fun w' h => by go_simp) hS ?_
            refine held_take_w (i := 18) (v := .slice xa n xc) rfl (by kernel_rfl) (by kernel_rfl) (by kernel_rfl) (by kernel_rfl) (fun w' h => by have h1 := CX.out w' h; go_simp) hS ?_
            simp [Act.put]
            have hlp : (mulL p q).length = n := (length_mulL p q).trans PL.out
            have hlq : (mulL q p).length = n := (length_mulL q p).trans QL.out
            have LP := Lib.hid hlp
            have LQ := Lib.hid hlq
            clear hlp hlq
            refine held_only_w (i := 10) rfl (by kernel_rfl) (by kernel_rfl) (wp_call_any 40 Try.func40 (by kernel_rfl) rfl _ _ rfl #[.slice xa n xc, .slice ya n yc] rfl ((refmul_any _ _ p q wr.drew (SX.out.below hS) (SY.out.below hS) (by have := PL.out; omega) (by have := QL.out; omega) HIn1.out).mono ?_))
            rintro e w5 ⟨v, rfl, hv, hb5⟩
            have hS5 : Below wo.heap.size wo w5 := hS.trans (hb5.mono hS.size)
            refine ⟨_, rfl, hS5, ?_⟩
            have HV1 := Lib.hid hv.sl
            obtain ⟨va, vc, e1, _⟩ := hv.sl
            rw [LP.out] at e1
            subst e1
            clear hv hb5
            simp [Act.put]
            refine held_only_w (i := 19) rfl (by kernel_rfl) (by kernel_rfl) (wp_call_any 40 Try.func40 (by kernel_rfl) rfl _ _ rfl #[.slice ya n yc, .slice xa n xc] rfl ((refmul_any _ _ q p w5 (SY.out.below hS5) (SX.out.below hS5) (by have := QL.out; omega) (by have := PL.out; omega) HIn2.out).mono ?_))
            rintro e w6 ⟨v, rfl, hv, hb6⟩
            have hS6 : Below wo.heap.size wo w6 := hS5.trans (hb6.mono hS5.size)
            refine ⟨_, rfl, hS6, ?_⟩
            have HV2 := Lib.hid hv.sl
            have HV1 := Lib.hid (HV1.out.below hb6)
            obtain ⟨va2, vc2, e1, _⟩ := hv.sl
            rw [LQ.out] at e1
            subst e1
            clear hv hb6
            obtain ⟨z, hz⟩ : ∃ z, z = decide (mulL p q = mulL q p) := ⟨_, rfl⟩
            have HCall := Lib.hid (same_any _ _ (mulL p q) (mulL q p) w6 HV1.out HV2.out (by have := LP.out; omega) (by have := LQ.out; omega))
            rw [← hz] at HCall
            have HZz := Lib.hid hz
            clear hz
            simp [Act.put]
            refine held_only_w (i := 20) rfl (by kernel_rfl) (by kernel_rfl) (wp_call_any 42 Try.func42 (by kernel_rfl) rfl _ _ rfl #[.slice va n vc, .slice va2 n vc2] rfl (HCall.out.mono ?_))
            rintro e w7 ⟨rfl, j, rfl⟩
            have hS7 : Below wo.heap.size wo (w6.drewN j) := below_drewN' hS6 j
            refine ⟨_, rfl, hS7, ?_⟩
            generalize w6.drewN j = w7 at *
            simp [Act.put]
            refine held_take (i := 21) (v := .bool z) rfl rfl (by kernel_rfl) (by kernel_rfl) (by kernel_rfl) (fun w' h => by go_simp) hS7 ?_
            refine held_take (i := 22) (v := .bool z) rfl rfl (by kernel_rfl) (by kernel_rfl) (by kernel_rfl) (fun w' h => by go_simp) hS7 ?_
            refine held_done (by kernel_rfl) ?_
            have HZ2 := Lib.hid (show z = true ↔ ∀ j, j < k + 1 → mulL p (ps.getD j []) = mulL (ps.getD j []) p from by
              have h1 := HZ.out.1 (by first | exact trivial | rfl)
              rw [HZz.out]
              constructor
              · intro h j hj
                by_cases e : j = k
                · subst e; rw [← HQ.out]; exact of_decide_eq_true h
                · exact h1 j (by omega)
              · intro h
                have := h k (by omega)
                rw [← HQ.out] at this
                exact decide_eq_true this)
            have HB3 := Lib.hid hS7
            clear hS hS5 hS6 hS7
            simp [Act.put]
            go_wp2_with fail
            go_roundw
            case rel => exact ⟨k + 1, z, by go_num, rfl, by omega, HZ2, HB3⟩
            case measure => simp [intOf]; omega
        · have HZ2 := Lib.hid (show z = true ↔ ∀ r ∈ ps, mulL p r = mulL r p from by
            rw [HZ.out]
            constructor
            · intro h r hr
              obtain ⟨j, hj, rfl⟩ := List.getElem_of_mem hr
              have := h j (by rw [← HM.out] at hj; omega)
              simpa [hj] using this
            · intro h j hj
              exact h _ (by have := HM.out; simp [show j < ps.length by omega]))
          have HBw := Lib.hid (HB.out.trans (HB2.out.mono HB.out.size))
          have cx := CX.out wr HB2.out
          obtain ⟨vs, o1, o2, o3⟩ := HR.out
          have hll := cenLTo_len ps i
          obtain ⟨C, hC⟩ : ∃ C, C = cenLTo ps i := ⟨_, rfl⟩
          rw [← hC] at o1 o2 o3 hll
          rw [← HM.out] at hll
          have HCs2 := Lib.hid (show cenLTo ps (i + 1) = C ++ (if ∀ r ∈ ps, mulL p r = mulL r p then [p] else []) from by rw [hC]; exact HCs.out)
          have O1 := Lib.hid o1
          have O3 := Lib.hid o3
          have P2 : wr.ownsRow w.heap.size 32 1 u3 C.length vs := row_below o2 HB2.out
          have HP2 := Lib.hid P2
          clear o1 o2 o3 hC HZ
          cases z with
          | true =>
            have HE := Lib.hid (show cenLTo ps (i + 1) = C ++ [p] from by rw [HCs2.out, if_pos (HZ2.out.1 rfl)])
            have hz := HBw.out.size
            go_wp2_with (at_builtin; go_loud (refine wpList_append_own _ rfl _ _ 22 rfl w.heap.size 32 i1 (.slice none 0 0) 1 24 Try.underlying22 hq hq0 hq1 hq2 rfl (by decide) u3 C.length vs rfl (P2.alloc _) ⟨wr.heap.size, 0, none⟩ 1 1 [.slice xa n xc] rfl rfl (cell_one_new _ _ _) (by simp [Value.oneCell']) (by unfold maxLen; omega) (by omega) (by simp; omega) ?_; intro v' w3 hown' hgrow _))
            have TR := Lib.hid (show RowS w.heap.size w w3 v' (cenLTo ps (i + 1)) from by
              rw [HE.out]
              refine ⟨vs ++ [.slice xa n xc], by simp [O1.out], by rw [List.length_append]; exact hown', fun j hj => ?_⟩
              rw [List.length_append] at hj
              simp only [List.length_cons, List.length_nil] at hj
              have hl := O1.out
              by_cases e : j < C.length
              · have e1 : (vs ++ [Value.slice xa n xc]).getD j undef = vs.getD j undef := by simp [List.getD_eq_getElem?_getD, List.getElem?_append_left (show j < vs.length by omega)]
                have e2 : (C ++ [p]).getD j [] = C.getD j [] := by simp [List.getD_eq_getElem?_getD, List.getElem?_append_left e]
                rw [e1, e2]; exact O3.out j e
              · have e0 : j = C.length := by omega
                have e1 : (vs ++ [Value.slice xa n xc]).getD j undef = .slice xa n xc := by rw [e0, ← hl]; simp
                have e2 : (C ++ [p]).getD j [] = p := by rw [e0]; simp
                rw [e1, e2]; exact SX0.out)
            have TB := Lib.hid ((HBw.out.alloc hz (.cells #[.slice xa n xc] 32)).grown hgrow (by simp; omega) (fun r e => (P2.lt r e).1))
            clear hown' hgrow P2
            go_wp2
            go_roundw
            case rel => exact ⟨i + 1, by go_num, by omega, TR, TB⟩
            case measure => simp [intOf]; omega
          | false =>
            have HE := Lib.hid (show cenLTo ps (i + 1) = C from by
              rw [HCs2.out, if_neg (fun h => by have := HZ2.out.2 h; cases this), List.append_nil])
            have TR := Lib.hid (show RowS w.heap.size w wr u3 (cenLTo ps (i + 1)) from by rw [HE.out]; exact ⟨vs, O1.out, P2, O3.out⟩)
            clear P2
            go_wp2_with fail
            go_roundw
            case rel => exact ⟨i + 1, by go_num, by omega, TR, HBw⟩
            case measure => simp [intOf]; omega
    · have hke : i = m := by omega
      have TR := Lib.hid (show RowS w.heap.size w wr u3 (cenL ps) from by rw [← HAll.out, ← hke]; exact HR.out)
      clear hke
      go_wp2_with fail
      go_ret
      exact ⟨_, rfl, TR.out, HB.out⟩
end Go.Proofs.Ytjnjhfificpbbaa
