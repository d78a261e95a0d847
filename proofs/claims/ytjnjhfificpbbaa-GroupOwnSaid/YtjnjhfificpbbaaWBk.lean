/- walkBack. -/
import Derived.Test.YtjnjhfificpbbaaRev
namespace Go.Proofs.Ytjnjhfificpbbaa
open Go Go.RowKit

/-- g times the commutators of the pairs -/
def prodF (g : List Int) (l : List (List Int)) : List Int := l.foldl (fun y p => mulL y (cmP p)) g
/-- how what has been reached has been reached -/
structure Tree (f : List Int → Option (List Int)) (P Q : List Int → Prop) (d : List Int → Nat) : Prop where
  el : ∀ x, P x → El x
  zero : d (idL 7) = 0
  step : ∀ x, P x → x ≠ idL 7 → ∃ y p, f x = some (y ++ p) ∧ P y ∧ Q p ∧ p.length = 14 ∧ x = mulL y (cmP p) ∧ d x = d y + 1
theorem opr_setRow {B g : Nat} {w : World} {t : TypeId} {v : Value} {L : List (List Int)} {cs ds : Array Value} (h : Opr B w v L) (hb : Blk w g t cs) (hne : 89 ≠ t) : Opr B (w.setRow g ds) v L := by
  refine ⟨h.1, ?_⟩
  rcases h.2 with h2 | ⟨b, cap, cur, rfl, h3, h4, h5⟩
  · exact .inl h2
  · refine .inr ⟨b, cap, cur, rfl, h3, (setRow_other w g b ds (fun e1 => ?_)).trans h4, h5⟩
    subst e1
    unfold Blk at hb
    rw [hb] at h4
    cases h4
    exact hne rfl
theorem run_neq_el (a b : List Int) (ha : a.length = 7) (hb : b.length = 7) (w : World) {o : Oper} {act : Act} (x y : Operand) (r : TypeId) (hop : o.op = .binOp .neq 78 x y r) (hx : act.eval x = .agg (u8s a)) (hy : act.eval y = .agg (u8s b)) : (execOp act.eval o).run Try.prog w = .ok (.value (.bool (!decide (a = b)))) w := run_neq_op x y r hop a b hx hy ha hb

set_option maxRecDepth 100000 in
set_option maxHeartbeats 4000000 in
theorem walkBack_any {f : List Int → Option (List Int)} {P Q : List Int → Prop} {d : List Int → Nat} {m nn : Nat} {x : List Int} {w : World} (hm : MapV w m nn f) (ht : Tree f P Q d) (hx : P x) (hd : d x ≤ 823543) (hQ : ∀ p, Q p → p.length = 14) :
    Calls Try.prog 90 #[.map (some m), .agg (u8s x)] w fun e w' => ∃ v Qs, e = .returned v ∧ Opr w.heap.size w' v Qs ∧ (∀ p ∈ Qs, Q p) ∧ Qs.length = d x ∧ prodF (idL 7) Qs = x ∧ Below w.heap.size w w' := by
  have HM := Lib.hid hm
  have HT := Lib.hid ht
  have HX := Lib.hid hx
  have HQ := Lib.hid hQ
  have hb0 := (Below.refl w.heap.size w).alloc (Nat.le_refl _) (.cells (u8s x) 78)
  have HB0 := Lib.hid hb0
  have HG0 := Lib.hid (Blk.new w 78 (u8s x))
  have HO0 := Lib.hid (Opr.nil w.heap.size (w.alloc (.cells (u8s x) 78)))
  clear hm ht hx hb0 hQ
  go_enter Try.func90, Try.ntmps90
  go_wp2_with fail
  obtain ⟨w1, hw1⟩ : ∃ w1, w1 = w.alloc (.cells (u8s x) 78) := ⟨_, rfl⟩
  obtain ⟨gb, hgb⟩ : ∃ gb, gb = w.heap.size := ⟨_, rfl⟩
  have HB0 := Lib.hid (show Below w.heap.size w w1 by rw [hw1]; exact HB0.out)
  have HG0 := Lib.hid (show Blk w1 gb 78 (u8s x) by rw [hw1, hgb]; exact HG0.out)
  have HO0 := Lib.hid (show Opr w.heap.size w1 (.slice none 0 0) [] by rw [hw1]; exact HO0.out)
  have HGb := Lib.hid (show w.heap.size ≤ gb by omega)
  rw [← hw1, ← hgb]
  clear hw1 hgb
  go_loopg [5] (d x) (fun K lv wr => ∃ g S, Hid (Opr w.heap.size wr lv S) ∧ Hid (Blk wr gb 78 (u8s g)) ∧ Hid (P g) ∧ Hid (∀ p ∈ S, Q p) ∧ Hid (K = d g ∧ S.length + d g = d x) ∧ Hid (prodF g S.reverse = x) ∧ Hid (Below w.heap.size w wr))
  case atStart => exact ⟨x, [], HO0, HG0, HX, Lib.hid (fun p hp => by cases hp), Lib.hid ⟨rfl, by simp⟩, Lib.hid rfl, HB0⟩
  case round =>
    clear HO0 HG0 HB0
    obtain ⟨g, S, HO, HG, HP, HS, HK, HF, HB⟩ := hrel
    have hEg := HT.out.el g HP.out
    have hS : Blk wr.drew gb 78 (u8s g) := HG.out
    have hdr : Below wr.heap.size wr wr.drew := below_drewN' (Below.refl _ _) 1
    have HEg := Lib.hid hEg
    clear hEg
    go_wp2_with fail
    refine wp_region_held_all (S := fun w' => Blk w' gb 78 (u8s g)) (by kernel_rfl) ?_
    refine held_take (i := 0) (v := .agg (u8s g)) rfl rfl (by kernel_rfl) (by kernel_rfl) (by kernel_rfl) (fun w' h => run_row_op 78 _ rfl gb rfl 78 (u8s g) (0, 0) _ h Try.underlying78 rfl (infoElem' HEg.out.2)) hS ?_
    refine held_only (i := 1) rfl rfl (by kernel_rfl) (wp_call_any 89 Try.func89 (by kernel_rfl) rfl _ _ rfl #[] rfl ((neutral_any _).mono ?_))
    rintro e w2 ⟨rfl, hb2⟩
    have hB2 := hdr.trans (hb2.mono hdr.size)
    have hS2 : Blk w2 gb 78 (u8s g) := hS.below hb2
    refine ⟨_, rfl, hS2, ?_⟩
    simp [Act.put]
    refine held_take (i := 2) (v := .bool (!decide (g = idL 7))) rfl rfl (by kernel_rfl) (by kernel_rfl) (by kernel_rfl) (fun w' h => run_neq_el g (idL 7) HEg.out.2 (length_idL 7) w' _ _ _ rfl rfl rfl) hS2 ?_
    refine held_done (by kernel_rfl) ?_
    simp [Act.put]
    have HO2 := Lib.hid (HO.out.below hB2)
    have HG2 := Lib.hid hS2
    have HB2 := Lib.hid (HB.out.trans (hB2.mono HB.out.size))
    have HM2 := Lib.hid (HM.out.below HB2.out)
    clear hS hdr hb2 hB2 hS2 HO HG HB
    by_cases he : g = idL 7
    · subst he
      obtain ⟨la, lc, hle⟩ := HO2.out.slice
      subst hle
      have h14 : ∀ p ∈ S, p.length = 14 := fun p hp => HQ.out p (HS.out p hp)
      have hk := HK.out.2
      rw [HT.out.zero, Nat.add_zero] at hk
      have HRv := Lib.hid (show Calls Try.prog 99 #[.slice la S.length lc] w2 fun e w' => e = .returned (.tuple #[]) ∧ Opr w.heap.size w' (.slice la S.length lc) S.reverse ∧ w2.grownBy w' (Value.slice la S.length lc).ownBlock from
        reverse_any HO2.out h14 (by omega))
      have HKn := Lib.hid hk
      have HLt := Lib.hid (World.ownsRow.lt HO2.out)
      clear h14 hk HO2
      go_wp2_with fail
      refine HRv.out.mono ?_
      rintro e w3 ⟨rfl, ho, hg⟩
      have HO3 := Lib.hid ho
      have HB3 := Lib.hid (HB2.out.grown hg HB2.out.size (fun r e => (HLt.out r e).1))
      clear ho hg
      go_wp2_with fail
      go_ret
      exact ⟨_, S.reverse, rfl, HO3.out, fun p hp => HS.out p (List.mem_reverse.1 hp), by rw [List.length_reverse]; exact HKn.out, HF.out, HB3.out⟩
    · rw [decide_eq_false he]
      obtain ⟨y, p, t1, t2, t3, t4, t5, t6⟩ := HT.out.step g HP.out he
      have hEy := HT.out.el y t2
      have hl21 : (y ++ p).length = 21 := by rw [List.length_append, hEy.2, t4]
      have hnb := new_below w2 112 z21 (y ++ p)
      have hnX := new_blk w2 112 z21 (y ++ p)
      have r1 := blk_range hnX 0 7
      have r2 := blk_range hnX 7 14
      rw [List.drop_zero, List.take_left' hEy.2] at r1
      rw [List.drop_left' hEy.2, List.take_of_length_le (by rw [t4]; exact Nat.le_refl _)] at r2
      have HN0 := Lib.hid (Blk.new w2 112 z21)
      have HNX := Lib.hid hnX
      have R2 := Lib.hid r2
      have HF1 := Lib.hid t1
      have HPy := Lib.hid t2
      have HQp := Lib.hid t3
      have H14 := Lib.hid t4
      have HMu := Lib.hid t5
      have HDd := Lib.hid t6
      have HEy := Lib.hid hEy
      have H21 := Lib.hid hl21
      have HGx := Lib.hid (HG2.out.below hnb)
      have HOx := Lib.hid (HO2.out.below hnb)
      have hbx := HB2.out.trans (hnb.mono HB2.out.size)
      have HBx := Lib.hid hbx
      obtain ⟨wx, hwx⟩ : ∃ wx, wx = (w2.alloc (.cells z21 112)).setRow w2.heap.size (u8s (y ++ p)) := ⟨_, rfl⟩
      have HPb := Lib.hid (Blk.new wx 89 (u8s p))
      have bxa := (Below.refl wx.heap.size wx).alloc (Nat.le_refl _) (.cells (u8s p) 89)
      have HOy := Lib.hid (show Opr w.heap.size _ _ S from (show Opr w.heap.size wx _ S by rw [hwx]; exact HOx.out).below bxa)
      have HGy := Lib.hid ((show Blk wx gb 78 (u8s g) by rw [hwx]; exact HGx.out).below bxa)
      have HNy := Lib.hid ((show Blk wx w2.heap.size 112 (u8s (y ++ p)) by rw [hwx]; exact HNX.out).below bxa)
      have hbw : Below w.heap.size w wx := by rw [hwx]; exact hbx
      have HBy := Lib.hid (hbw.trans (bxa.mono hbw.size))
      rw [hwx] at HPb HOy HGy HNy HBy
      have hSl : S.length ≤ 823543 := by have := HK.out.2; omega
      clear t1 t2 t3 t4 t5 t6 hEy hl21 hnb hnX r1 r2 hbx hbw bxa hwx he
      unfold z21 at HN0 HPb HOy HGy HNy HBy R2 HNX
      go_wp2_with (first | (refine wpList_load_row rfl 78 _ rfl gb rfl 78 (u8s g) (0, 0) _ HG2.out Try.underlying78 rfl (infoElem' HEg.out.2) ?_) | (refine wpList_get_st rfl _ _ rfl m nn f rfl HM2.out g (y ++ p) rfl HEg.out.e7 HF1.out ?_) | (refine wpList_store_row rfl 112 _ _ rfl w2.heap.size (u8s (y ++ p)) rfl rfl 112 _ HN0.out (infoSt' H21.out) (by rw [size_u8s, H21.out]; rfl) (u8s_one (y ++ p)) ?_) | (refine wpList_load_mid rfl 89 _ rfl w2.heap.size 7 rfl (p.map (Value.int .u8)) _ R2.out Try.underlying89 rfl (infoPr14 H14.out) ?_) | (refine wpList_build_pr rfl _ rfl p H14.out rfl ?_) | (at_builtin; go_loud (refine wpList_append_pr rfl _ _ rfl w.heap.size _ S rfl HOy.out _ p H14.out rfl HPb.out (by omega) HBy.out.size ?_; intro v' w7 hown hgrow hat; have ht := row_typ HOy.out; have HG7 := Lib.hid (HGy.out.grown hgrow ht (by decide)); have HN7 := Lib.hid (HNy.out.grown hgrow ht (by decide)); have HO7 := Lib.hid hown; have HB7 := Lib.hid (HBy.out.grown hgrow HBy.out.size (fun r e => (World.ownsRow.lt HOy.out r e).1)); have r7 := blk_range HN7.out 0 7; rw [List.drop_zero, List.take_left' HEy.out.2] at r7; have R7 := Lib.hid r7; clear hown hgrow hat ht r7)) | (refine wpList_load_mid rfl 78 _ rfl w2.heap.size 0 rfl (y.map (Value.int .u8)) _ R7.out Try.underlying78 rfl (info7 HEy.out) ?_) | (refine wpList_store_row rfl 78 _ _ rfl gb (u8s y) rfl rfl 78 (u8s g) HG7.out (infoElem' HEy.out.2) (by rw [size_u8s, size_u8s, HEy.out.2, HEg.out.2]) (u8s_one y) ?_))
      have TO := Lib.hid (show Opr w.heap.size (w7.setRow gb (u8s y)) v' (S ++ [p]) from opr_setRow HO7.out HG7.out (by decide))
      have TG := Lib.hid (Blk.setRow HG7.out (u8s y))
      have TB := Lib.hid (below_row HB7.out gb (u8s y) HGb.out)
      have TQ := Lib.hid (show ∀ q ∈ S ++ [p], Q q from fun q hq => by
        rcases List.mem_append.1 hq with e | e
        · exact HS.out q e
        · rw [List.mem_singleton.1 e]; exact HQp.out)
      have TK := Lib.hid (show d y = d y ∧ (S ++ [p]).length + d y = d x from ⟨rfl, by
        have h1 := HK.out.2
        have h2 := HDd.out
        rw [List.length_append]
        simp; omega⟩)
      have TF := Lib.hid (show prodF y (S ++ [p]).reverse = x from by
        rw [List.reverse_append]
        show prodF (mulL y (cmP p)) S.reverse = x
        rw [← HMu.out]
        exact HF.out)
      simp [Act.put]
      go_roundg (d y)
      case rel => exact ⟨y, S ++ [p], TO, TG, HPy, TQ, TK, TF, TB⟩
      case measure => rw [HK.out.1, HDd.out]; exact Nat.lt_succ_self _
end Go.Proofs.Ytjnjhfificpbbaa
