/- The reference's Of and the methods of its kits by their meaning. -/
import Derived.Test.YtmenkahkdcjkiaaDoorProg
import Derived.Test.YtmenkahkdcjkiaaDoorBase
import Derived.Test.YtmenkahkdcjkiaaDoorFof
import Derived.Test.YtmenkahkdcjkiaaDoorRmod
import Derived.Test.YtmenkahkdcjkiaaDoorRord
import Derived.Outline
import Derived.Test.YtmenkahkdcjkiaaDoorQPick
namespace Go.Proofs.YtmenkahkdcjkiaaDoor
open Go.RowKit

/-- the modulus, 0 for a prime field -/
def modK (m : Nat) : Nat := if m = 1 then 0 else modl m
/-- the kit of p and m -/
def kitC (p m : Nat) : Array Value := #[.int .i64 p, .int .i64 m, .int .i64 (fQ p m : Nat), .int .i64 (modK m : Nat)]
def kitV (p m : Nat) : Value := .agg (kitC p m)

theorem keep_cell {W w1 : World} {b o : Nat} {v : Value} (hb : Below W.heap.size W w1) (hc : W.cell? ⟨b, o, none⟩ = some v) : w1.cell? ⟨b, o, none⟩ = some v := (hb.cell (p := ⟨b, o, none⟩) (World.block_lt_of_cell? _ _ hc)).trans hc
theorem infoKit : (Tryd.prog.info? 34).map (·.size) = some 4 := by kernel_rfl
theorem infoField : (Tryd.prog.info? 23).map (·.size) = some 2 := by kernel_rfl

def kit0 : Array Value := #[.int .i64 0, .int .i64 0, .int .i64 0, .int .i64 0]
theorem wp_alloc_kit {o : Oper} {a : Act} {w : World} {K : Act → World → Prop} {Q : Exit → Act → World → Prop} (ho : o.op = .alloc 34) (h : K (a.put o.dst (.pointer (some ⟨w.heap.size, 0, none⟩))) (w.alloc (.cells kit0 34))) : o.wp Tryd.prog a w K Q := by
  have e : (execOp a.eval o).run Tryd.prog w = .ok (.value (.pointer (some ⟨w.heap.size, 0, none⟩))) (w.alloc (.cells kit0 34)) := by
    unfold execOp; rw [ho]; kernel_rfl
  unfold Oper.wp
  rw [e]
  exact h
set_option maxRecDepth 100000 in
set_option maxHeartbeats 4000000 in
theorem of_any (p m : Nat) (w : World) (h : Vf p m) : Calls Tryd.prog 21 #[.agg #[.int .i64 p, .int .i64 m]] w fun e w' => e = .returned (kitV p m) ∧ Below w.heap.size w w' := by
  have H := Lib.hid h
  have hm : m = 1 ∨ (2 ≤ m ∧ m ≤ 16) := by rcases h with ⟨h, _⟩ | ⟨_, h⟩ <;> omega
  obtain ⟨q, hq0⟩ : ∃ q, q = fQ p m := ⟨_, rfl⟩
  have HQ := Lib.hid hq0
  clear h hq0
  go_enter Tryd.func21, Tryd.ntmps21
  go_wp2_with fail
  obtain ⟨W, hW⟩ : ∃ W, W = (w.alloc (.cells #[.int .i64 p, .int .i64 m] 23)).alloc (.cells #[.int .i64 0, .int .i64 0, .int .i64 0, .int .i64 0] 34) := ⟨_, rfl⟩
  have hK : Blk W w.heap.size 23 #[.int .i64 p, .int .i64 m] := by rw [hW]; exact (Blk.new _ _ _).alloc _
  have hR : Blk W (w.heap.size + 1) 34 #[.int .i64 0, .int .i64 0, .int .i64 0, .int .i64 0] := by
    rw [hW]
    have := Blk.new (w.alloc (.cells #[.int .i64 p, .int .i64 m] 23)) 34 #[.int .i64 0, .int .i64 0, .int .i64 0, .int .i64 0]
    rwa [World.size_alloc] at this
  have hB : Below w.heap.size w W := by rw [hW]; exact ((Below.refl _ w).alloc (Nat.le_refl _) _).alloc (by simp) _
  have hz : W.heap.size = w.heap.size + 2 := by rw [hW]; simp
  rw [← hW]
  have HK := Lib.hid hK
  have HR := Lib.hid hR
  have HB := Lib.hid hB
  have HZ := Lib.hid hz
  clear hW hK hR hB hz
  refine wp_region_held_then (S := fun w' => Below W.heap.size W w') 8 (by kernel_rfl) (by kernel_rfl) ?_
  have hS : Below W.heap.size W W.drew := below_drewN' (Below.refl _ _) 1
  simp only [List.take_succ_cons, List.take_zero, List.drop_succ_cons, List.drop_zero]
  refine held_take (i := 0) (v := .pointer (some ⟨w.heap.size, 0, none⟩)) rfl rfl (by kernel_rfl) (by kernel_rfl) (by kernel_rfl) (fun w' h => by go_simp) hS ?_
  refine held_take (i := 1) (v := .int .i64 p) rfl rfl (by kernel_rfl) (by kernel_rfl) (by kernel_rfl) (fun w' h => ?_) hS ?_
  · have h1 := (HK.out.below h).cell 0
    go_simp
  refine held_take (i := 2) (v := .pointer (some ⟨w.heap.size, 1, none⟩)) rfl rfl (by kernel_rfl) (by kernel_rfl) (by kernel_rfl) (fun w' h => by go_simp) hS ?_
  refine held_take (i := 3) (v := .int .i64 m) rfl rfl (by kernel_rfl) (by kernel_rfl) (by kernel_rfl) (fun w' h => ?_) hS ?_
  · have h1 := (HK.out.below h).cell 1
    go_simp
  refine held_take (i := 4) (v := .agg #[.int .i64 p, .int .i64 m]) rfl rfl (by kernel_rfl) (by kernel_rfl) (by kernel_rfl) (fun w' h => run_row_any 23 _ rfl w.heap.size rfl 23 #[.int .i64 p, .int .i64 m] (0, 0) _ (HK.out.below h) Tryd.underlying23 rfl infoField) hS ?_
  simp [Act.put]
  refine wpAnyH_all (rs := [5, 7]) (by kernel_rfl) (by simp) (fun j hj => ?_)
  rcases (show j = 5 ∨ j = 7 by simpa using hj) with rfl | rfl
  · refine held_pick (i := 5) rfl rfl (wp_call_any 10 Tryd.func10 (by kernel_rfl) rfl _ _ rfl #[.agg #[.int .i64 p, .int .i64 m]] rfl ((reford_yes p m _ H.out).mono ?_))
    rintro e w1 ⟨rfl, b1⟩
    have hS1 : Below W.heap.size W w1 := hS.trans (b1.mono hS.size)
    refine ⟨_, rfl, hS1, ?_⟩
    rw [← HQ.out]
    simp [Act.put]
    refine held_take (i := 6) (v := .agg #[.int .i64 p, .int .i64 m, .int .i64 q, .int .i64 0]) rfl rfl (by kernel_rfl) (by kernel_rfl) (by kernel_rfl) (fun w' h => by go_simp) hS1 ?_
    refine held_only (i := 7) rfl rfl (by kernel_rfl) (wp_alloc_kit rfl ⟨hS1.alloc hS1.size _, held_done (by kernel_rfl) ?_⟩)
    have hG := Blk.new w1 34 kit0
    have hS2 : Below W.heap.size W (w1.alloc (.cells kit0 34)) := hS1.alloc hS1.size _
    have hgz : W.heap.size ≤ w1.heap.size := hS1.size
    obtain ⟨g, hg⟩ : ∃ g, g = w1.heap.size := ⟨_, rfl⟩
    rw [← hg] at hG hgz ⊢
    obtain ⟨w2, hw2⟩ : ∃ w2, w2 = w1.alloc (.cells kit0 34) := ⟨_, rfl⟩
    rw [← hw2] at hG hS2 ⊢
    clear hw2 hg hS1 b1 hS
    simp [Act.put]
    have hgw : w.heap.size + 2 ≤ g := by have := HZ.out; omega
    have HG3 := Lib.hid (hG.setRow #[.int .i64 p, .int .i64 m, .int .i64 q, .int .i64 0])
    have HB3 := Lib.hid (below_row (HB.out.trans (hS2.mono HB.out.size)) g #[.int .i64 p, .int .i64 m, .int .i64 q, .int .i64 0] (by omega))
    have HK3 := Lib.hid (show Blk (w2.setRow g #[.int .i64 p, .int .i64 m, .int .i64 q, .int .i64 0]) w.heap.size 23 #[.int .i64 p, .int .i64 m] from (setRow_other w2 g w.heap.size _ (by omega)).trans (HK.out.below hS2))
    have HR3 := Lib.hid (show Blk (w2.setRow g #[.int .i64 p, .int .i64 m, .int .i64 q, .int .i64 0]) (w.heap.size + 1) 34 kit0 from (setRow_other w2 g (w.heap.size + 1) _ (by omega)).trans (HR.out.below hS2))
    refine wpList_store_row rfl 34 _ _ rfl g #[.int .i64 p, .int .i64 m, .int .i64 q, .int .i64 0] rfl rfl 34 kit0 hG infoKit rfl (by simp [Value.oneCell']) ?_
    obtain ⟨w3, hw3⟩ : ∃ w3, w3 = w2.setRow g #[.int .i64 p, .int .i64 m, .int .i64 q, .int .i64 0] := ⟨_, rfl⟩
    rw [← hw3] at HG3 HB3 HK3 HR3 ⊢
    have k1 : w3.cell? ⟨w.heap.size, 1, none⟩ = some (.int .i64 m) := HK3.out.cell 1
    clear hw3 hG hS2 hgz hj
    rcases hm with rfl | ⟨h2, h16⟩
    · have HT := Lib.hid (show kitC p 1 = #[.int .i64 p, .int .i64 ((1 : Nat) : Int), .int .i64 q, .int .i64 0] by unfold kitC; rw [← HQ.out]; rfl)
      go_wp2_with (first | (refine wpList_load_row rfl 34 _ rfl g rfl 34 _ (0, 0) _ HG3.out Tryd.underlying34 rfl infoKit ?_) | (refine wpList_store_row rfl 34 _ _ rfl (w.heap.size + 1) _ rfl rfl 34 kit0 HR3.out infoKit rfl (by simp [Value.oneCell']) ?_))
      exact bodyPost_ret (results_cell_row rfl _ _ (w.heap.size + 1) 34 _ (0, 0) _ rfl (HR3.out.setRow _) Tryd.underlying34 rfl infoKit) rfl ⟨by unfold kitV; rw [HT.out], below_row HB3.out _ _ (by omega)⟩
    · have HT := Lib.hid (show kitC p m = #[.int .i64 p, .int .i64 m, .int .i64 q, .int .i64 (modl m : Nat)] by unfold kitC modK; rw [← HQ.out, if_neg (by omega)])
      go_wp2_with fail
      refine (refmod_any m _ h2 h16).mono ?_
      rintro e w' ⟨rfl, rfl⟩
      obtain ⟨T, hT⟩ : ∃ T, T = modl m := ⟨_, rfl⟩
      rw [← hT] at HT ⊢
      have k2 : w3.cell? ⟨g, 3, none⟩ = some (.int .i64 0) := HG3.out.cell 3
      have k3 := HG3.out.free 3
      have HG4 := Lib.hid (show Blk (w3.setCell ⟨g, 3, none⟩ (.int .i64 T)) g 34 #[.int .i64 p, .int .i64 m, .int .i64 q, .int .i64 T] from HG3.out.set 3 (.int .i64 T))
      have HR4 := Lib.hid (HR3.out.other g 3 (.int .i64 T) (by omega))
      have HB4 := Lib.hid (show Below w.heap.size w (w3.setCell ⟨g, 3, none⟩ (.int .i64 T)) from HB3.out.setCell (show w.heap.size ≤ g by omega) _)
      clear hT
      go_wp2_with (first | (refine wpList_load_row rfl 34 _ rfl g rfl 34 _ (0, 0) _ HG4.out Tryd.underlying34 rfl infoKit ?_) | (refine wpList_store_row rfl 34 _ _ rfl (w.heap.size + 1) _ rfl rfl 34 kit0 HR4.out infoKit rfl (by simp [Value.oneCell']) ?_))
      exact bodyPost_ret (results_cell_row rfl _ _ (w.heap.size + 1) 34 _ (0, 0) _ rfl (HR4.out.setRow _) Tryd.underlying34 rfl infoKit) rfl ⟨by unfold kitV; rw [HT.out], below_row HB4.out _ _ (by omega)⟩
  · refine held_pick (i := 7) rfl rfl (wp_alloc_kit rfl ⟨hS.alloc hS.size _, ?_⟩)
    have hG := Blk.new W.drew 34 kit0
    have hS1 : Below W.heap.size W (W.drew.alloc (.cells kit0 34)) := hS.alloc hS.size _
    refine held_only (i := 5) rfl rfl (by kernel_rfl) (wp_call_any 10 Tryd.func10 (by kernel_rfl) rfl _ _ rfl #[.agg #[.int .i64 p, .int .i64 m]] rfl ((reford_yes p m _ H.out).mono ?_))
    rintro e w2 ⟨rfl, b2⟩
    have hS2 : Below W.heap.size W w2 := hS1.trans (b2.mono hS1.size)
    have hG : Blk w2 W.heap.size 34 kit0 := hG.below b2
    have hgz : W.heap.size ≤ W.heap.size := Nat.le_refl _
    refine ⟨_, rfl, hS2, ?_⟩
    rw [← HQ.out]
    simp [Act.put]
    refine held_take (i := 6) (v := .agg #[.int .i64 p, .int .i64 m, .int .i64 q, .int .i64 0]) rfl rfl (by kernel_rfl) (by kernel_rfl) (by kernel_rfl) (fun w' h => by go_simp) hS2 ?_
    refine held_done (by kernel_rfl) ?_
    simp [Act.put]
    obtain ⟨g, hg⟩ : ∃ g, g = W.heap.size := ⟨_, rfl⟩
    rw [← hg] at hG hgz ⊢
    have hgw : w.heap.size + 2 ≤ g := by have := HZ.out; omega
    have HG3 := Lib.hid (hG.setRow #[.int .i64 p, .int .i64 m, .int .i64 q, .int .i64 0])
    have HB3 := Lib.hid (below_row (HB.out.trans (hS2.mono HB.out.size)) g #[.int .i64 p, .int .i64 m, .int .i64 q, .int .i64 0] (by omega))
    have HK3 := Lib.hid (show Blk (w2.setRow g #[.int .i64 p, .int .i64 m, .int .i64 q, .int .i64 0]) w.heap.size 23 #[.int .i64 p, .int .i64 m] from (setRow_other w2 g w.heap.size _ (by omega)).trans (HK.out.below hS2))
    have HR3 := Lib.hid (show Blk (w2.setRow g #[.int .i64 p, .int .i64 m, .int .i64 q, .int .i64 0]) (w.heap.size + 1) 34 kit0 from (setRow_other w2 g (w.heap.size + 1) _ (by omega)).trans (HR.out.below hS2))
    refine wpList_store_row rfl 34 _ _ rfl g #[.int .i64 p, .int .i64 m, .int .i64 q, .int .i64 0] rfl rfl 34 kit0 hG infoKit rfl (by simp [Value.oneCell']) ?_
    obtain ⟨w3, hw3⟩ : ∃ w3, w3 = w2.setRow g #[.int .i64 p, .int .i64 m, .int .i64 q, .int .i64 0] := ⟨_, rfl⟩
    rw [← hw3] at HG3 HB3 HK3 HR3 ⊢
    have k1 : w3.cell? ⟨w.heap.size, 1, none⟩ = some (.int .i64 m) := HK3.out.cell 1
    clear hw3 hG hS2 hgz hj hg hS1 b2 hS
    rcases hm with rfl | ⟨h2, h16⟩
    · have HT := Lib.hid (show kitC p 1 = #[.int .i64 p, .int .i64 ((1 : Nat) : Int), .int .i64 q, .int .i64 0] by unfold kitC; rw [← HQ.out]; rfl)
      go_wp2_with (first | (refine wpList_load_row rfl 34 _ rfl g rfl 34 _ (0, 0) _ HG3.out Tryd.underlying34 rfl infoKit ?_) | (refine wpList_store_row rfl 34 _ _ rfl (w.heap.size + 1) _ rfl rfl 34 kit0 HR3.out infoKit rfl (by simp [Value.oneCell']) ?_))
      exact bodyPost_ret (results_cell_row rfl _ _ (w.heap.size + 1) 34 _ (0, 0) _ rfl (HR3.out.setRow _) Tryd.underlying34 rfl infoKit) rfl ⟨by unfold kitV; rw [HT.out], below_row HB3.out _ _ (by omega)⟩
    · have HT := Lib.hid (show kitC p m = #[.int .i64 p, .int .i64 m, .int .i64 q, .int .i64 (modl m : Nat)] by unfold kitC modK; rw [← HQ.out, if_neg (by omega)])
      go_wp2_with fail
      refine (refmod_any m _ h2 h16).mono ?_
      rintro e w' ⟨rfl, rfl⟩
      obtain ⟨T, hT⟩ : ∃ T, T = modl m := ⟨_, rfl⟩
      rw [← hT] at HT ⊢
      have k2 : w3.cell? ⟨g, 3, none⟩ = some (.int .i64 0) := HG3.out.cell 3
      have k3 := HG3.out.free 3
      have HG4 := Lib.hid (show Blk (w3.setCell ⟨g, 3, none⟩ (.int .i64 T)) g 34 #[.int .i64 p, .int .i64 m, .int .i64 q, .int .i64 T] from HG3.out.set 3 (.int .i64 T))
      have HR4 := Lib.hid (HR3.out.other g 3 (.int .i64 T) (by omega))
      have HB4 := Lib.hid (show Below w.heap.size w (w3.setCell ⟨g, 3, none⟩ (.int .i64 T)) from HB3.out.setCell (show w.heap.size ≤ g by omega) _)
      clear hT
      go_wp2_with (first | (refine wpList_load_row rfl 34 _ rfl g rfl 34 _ (0, 0) _ HG4.out Tryd.underlying34 rfl infoKit ?_) | (refine wpList_store_row rfl 34 _ _ rfl (w.heap.size + 1) _ rfl rfl 34 kit0 HR4.out infoKit rfl (by simp [Value.oneCell']) ?_))
      exact bodyPost_ret (results_cell_row rfl _ _ (w.heap.size + 1) 34 _ (0, 0) _ rfl (HR4.out.setRow _) Tryd.underlying34 rfl infoKit) rfl ⟨by unfold kitV; rw [HT.out], below_row HB4.out _ _ (by omega)⟩
end Go.Proofs.YtmenkahkdcjkiaaDoor
