/- Elements compared. | (*closed).central and group.Center. | The reference's Center. -/
import Derived.Test.YtdcilefiacohnaaNORM
namespace Go.Proofs.Ytdcilefiacohnaa
open Go Go.RowKit

theorem guardEl : Program.eqGuardType Try.prog Try.prog.depth 78 = false := by kernel_rfl
theorem sizeU8 (w : World) : (sizeOf 5).run Try.prog w = .ok 1 w := by kernel_rfl
theorem aggU8 (w : World) : (isAgg 5).run Try.prog w = .ok false w := by kernel_rfl
theorem partU8 (xs : Array Value) (i : Nat) (v : Value) (h : xs[i]? = some v) (w : World) : (part 5 xs i).run Try.prog w = .ok v w := by
  unfold part
  simp [Sem.run_bind, h]
theorem eq8 (a b : Int) (d : Nat) (w : World) : (Op.equalIn (d + 1) 5 (.int .u8 a) (.int .u8 b)).run Try.prog w = .ok (a == b) w :=
  run_equalIn_int w d 5 .u8 .u8 a b Try.underlying5
theorem ite_and {p : Prop} [Decidable p] {q : Bool} {X : Result Bool} {w : World} (h : X = Result.ok q w) : (if p then X else Result.ok false w) = Result.ok (decide p && q) w := by
  by_cases hp : p
  · rw [if_pos hp, decide_eq_true hp, Bool.true_and, h]
  · rw [if_neg hp, decide_eq_false hp, Bool.false_and]
theorem equalEl (a b : List Int) (ha : a.length = 7) (hb : b.length = 7) (d : Nat) (w : World) : (Op.equalIn (d + 2) 78 (.agg (u8s a)) (.agg (u8s b))).run Try.prog w = .ok (decide (a = b)) w := by
  match a, b, ha, hb with
  | [x0, x1, x2, x3, x4, x5, x6], [y0, y1, y2, y3, y4, y5, y6], _, _ =>
    rw [Op.equalIn.eq_def]
    simp only [Sem.run_bind, run_underlying Try.underlying78, Result.andThen_ok, sizeU8]
    simp only [Std.Legacy.Range.forIn_eq_forIn_range', Std.Legacy.Range.size]
    simp [List.range', u8s, Sem.run_bind, partU8, eq8]
    refine ite_and ?_
    refine ite_and ?_
    refine ite_and ?_
    refine ite_and ?_
    refine ite_and ?_
    refine ite_and ?_
    by_cases h : x6 = y6 <;> simp [h]
theorem run_neq_op {o : Oper} {act : Act} {w : World} (x y : Operand) (r : TypeId) (hop : o.op = .binOp .neq 78 x y r) (a b : List Int) (hx : act.eval x = .agg (u8s a)) (hy : act.eval y = .agg (u8s b)) (ha : a.length = 7) (hb : b.length = 7) :
    (execOp act.eval o).run Try.prog w = .ok (.value (.bool (!decide (a = b)))) w := by
  simp [execOp, hop, hx, hy, run_eqGuard_agg _ _ _ _ _ _ _ guardEl, run_neq_struct, equalEl a b ha hb, Result.andThen]
end Go.Proofs.Ytdcilefiacohnaa
namespace Go.Proofs.Ytdcilefiacohnaa
open Go Go.RowKit

set_option maxRecDepth 100000 in
set_option maxHeartbeats 4000000 in
theorem central_any {B c m : Nat} {n : Int} {vg vl : Value} {G L : List (List Int)} {a : List Int} {w : World} (h : Clo B w c m n vg vl G L) (g : Grp G L) (ha : El a) :
    Calls Try.prog 62 #[.pointer (some ⟨c, 0, none⟩), .agg (u8s a)] w fun e w' => ∃ r, e = .returned (.bool r) ∧ Says r (∀ y ∈ G, mulL a y = mulL y a) ∧ Below w.heap.size w w' := by
  have HC := Lib.hid (h.below ((Below.refl w.heap.size w).alloc (Nat.le_refl _) (.cells (u8s a) 78)))
  have HA := Lib.hid (Blk.new w 78 (u8s a))
  have HB0 := Lib.hid ((Below.refl w.heap.size w).alloc (Nat.le_refl _) (.cells (u8s a) 78))
  have HG := Lib.hid g
  have HEA := Lib.hid ha
  obtain ⟨ag, cg, rfl⟩ := h.rg.slice
  have h0 := HC.out.cells.cell 1
  have hgl := g.glen
  clear h g ha
  go_enter Try.func62, Try.ntmps62
  go_wp2_with fail
  generalize w.alloc (.cells (u8s a) 78) = w1 at *
  go_loopw [12] (fun i wr => ∃ k : Nat, i = .int .i64 k ∧ k ≤ G.length ∧ Hid (∀ i, i < k → mulL a (G.getD i []) = mulL (G.getD i []) a) ∧ Hid (Below w1.heap.size w1 wr)) (fun i _ => G.length - (intOf i).toNat)
  case atStart => exact ⟨0, rfl, Nat.zero_le _, Lib.hid (fun i hi => by omega), Lib.hid (Below.refl _ _)⟩
  case round =>
    clear h0
    obtain ⟨k, rfl, hk, HT, HB⟩ := hrel
    by_cases hlt : k < G.length
    · obtain ⟨gg, cg', hag⟩ := HC.out.rg.form (by omega)
      cases hag
      have hr := (HC.out.below HB.out).rg.range (fun x hx => (HG.out.gels x hx).2) k hlt
      obtain ⟨b, hb⟩ : ∃ b, b = G.getD k [] := ⟨_, rfl⟩
      have hEb : El b := by rw [hb]; exact HG.out.gels _ (getD_mem hlt)
      rw [← hb] at hr
      have HR := Lib.hid hr
      have HBB := Lib.hid hb
      have HE := Lib.hid hEb
      have HR0 := Lib.hid (Blk.new wr 78 #[.int .u8 0, .int .u8 0, .int .u8 0, .int .u8 0, .int .u8 0, .int .u8 0, .int .u8 0])
      have HRX := Lib.hid (Blk.setRow HR0.out (u8s b))
      have HBX := Lib.hid (below_row ((Below.refl wr.heap.size wr).alloc (Nat.le_refl _) (.cells #[.int .u8 0, .int .u8 0, .int .u8 0, .int .u8 0, .int .u8 0, .int .u8 0, .int .u8 0] 78)) wr.heap.size (u8s b) (Nat.le_refl _))
      have HQX := Lib.hid ((HA.out.below HB.out).below HBX.out)
      have HBY := Lib.hid (HB.out.trans (HBX.out.mono HB.out.size))
      clear hb hr hEb
      go_wp2_with (first | (refine wpList_load_mid rfl 78 _ rfl gg (k * 7) rfl (b.map (Value.int .u8)) _ HR.out Try.underlying78 rfl (info7 HE.out) ?_) | (refine wpList_store_row rfl 78 _ _ rfl wr.heap.size (u8s b) rfl rfl 78 #[.int .u8 0, .int .u8 0, .int .u8 0, .int .u8 0, .int .u8 0, .int .u8 0, .int .u8 0] HR0.out (infoElem' HE.out.2) (by rw [size_u8s, HE.out.2]; rfl) (u8s_one b) ?_))
      generalize (wr.alloc (.cells #[.int .u8 0, .int .u8 0, .int .u8 0, .int .u8 0, .int .u8 0, .int .u8 0, .int .u8 0] 78)).setRow wr.heap.size (u8s b) = W at *
      obtain ⟨z, hz⟩ : ∃ z, z = decide (mulL a b = mulL b a) := ⟨_, rfl⟩
      have HZ := Lib.hid hz
      have HM1 := Lib.hid (HEA.out.mul HE.out)
      have HM2 := Lib.hid (HE.out.mul HEA.out)
      clear hz HR HR0 HBX HB
      simp [Act.put]
      refine wp_region_held_all (S := fun w' => Below W.heap.size W w') (by kernel_rfl) ?_
      have hS : Below W.heap.size W W.drew := below_drewN' (Below.refl _ _) 1
      refine held_take (i := 0) (v := .agg (u8s a)) rfl rfl (by kernel_rfl) (by kernel_rfl) (by kernel_rfl) (fun w' h => run_row_op 78 _ rfl w.heap.size rfl 78 (u8s a) (0, 0) _ (HQX.out.below h) Try.underlying78 rfl (infoElem' HEA.out.2)) hS ?_
      refine held_take (i := 1) (v := .agg (u8s b)) rfl rfl (by kernel_rfl) (by kernel_rfl) (by kernel_rfl) (fun w' h => run_row_op 78 _ rfl wr.heap.size rfl 78 (u8s b) (0, 0) _ (HRX.out.below h) Try.underlying78 rfl (infoElem' HE.out.2)) hS ?_
      refine held_take (i := 3) (v := .agg (u8s b)) rfl rfl (by kernel_rfl) (by kernel_rfl) (by kernel_rfl) (fun w' h => run_row_op 78 _ rfl wr.heap.size rfl 78 (u8s b) (0, 0) _ (HRX.out.below h) Try.underlying78 rfl (infoElem' HE.out.2)) hS ?_
      refine held_take (i := 4) (v := .agg (u8s a)) rfl rfl (by kernel_rfl) (by kernel_rfl) (by kernel_rfl) (fun w' h => run_row_op 78 _ rfl w.heap.size rfl 78 (u8s a) (0, 0) _ (HQX.out.below h) Try.underlying78 rfl (infoElem' HEA.out.2)) hS ?_
      simp [Act.put]
      refine held_only (i := 2) rfl rfl (by kernel_rfl) (wp_call_any 83 Try.func83 (by kernel_rfl) rfl _ _ rfl #[.agg (u8s a), .agg (u8s b)] rfl ((times_any a b W.drew HEA.out.e7 HE.out.e7).mono ?_))
      rintro e w5 ⟨rfl, hb5⟩
      have hS5 : Below W.heap.size W w5 := hS.trans (hb5.mono hS.size)
      refine ⟨_, rfl, hS5, ?_⟩
      clear hb5
      simp [Act.put]
      refine held_only (i := 5) rfl rfl (by kernel_rfl) (wp_call_any 83 Try.func83 (by kernel_rfl) rfl _ _ rfl #[.agg (u8s b), .agg (u8s a)] rfl ((times_any b a w5 HE.out.e7 HEA.out.e7).mono ?_))
      rintro e w6 ⟨rfl, hb6⟩
      have hS6 : Below W.heap.size W w6 := hS5.trans (hb6.mono hS5.size)
      refine ⟨_, rfl, hS6, ?_⟩
      clear hb6
      simp [Act.put]
      refine held_take (i := 6) (v := .bool (!z)) rfl rfl (by kernel_rfl) (by kernel_rfl) (by kernel_rfl) (fun w' h => by rw [HZ.out]; exact run_neq_op _ _ _ rfl (mulL a b) (mulL b a) rfl rfl HM1.out.2 HM2.out.2) hS6 ?_
      refine held_done (by kernel_rfl) ?_
      have HB2 := Lib.hid (HBY.out.trans (hS6.mono HBY.out.size))
      clear hS hS5 hS6
      simp [Act.put]
      cases z with
      | true =>
        have HT2 := Lib.hid (show ∀ i, i < k + 1 → mulL a (G.getD i []) = mulL (G.getD i []) a from fun i hi => by
          by_cases e : i = k
          · subst e; rw [← HBB.out]; exact of_decide_eq_true HZ.out.symm
          · exact HT.out i (by omega))
        go_wp2_with fail
        go_roundw
        case rel => exact ⟨k + 1, by go_num, by omega, HT2, HB2⟩
        case measure => simp [intOf]; omega
      | false =>
        have HS := Lib.hid (show Says false (∀ y ∈ G, mulL a y = mulL y a) from Says.no fun hp => of_decide_eq_false HZ.out.symm (by rw [HBB.out]; exact hp _ (getD_mem hlt)))
        go_wp2_with fail
        go_ret
        exact ⟨false, rfl, HS.out, HB0.out.trans (HB2.out.mono HB0.out.size)⟩
    · have HS := Lib.hid (show Says true (∀ y ∈ G, mulL a y = mulL y a) from Says.yes fun g hg => by
        obtain ⟨i, hi, rfl⟩ := List.getElem_of_mem hg
        have := HT.out i (by omega)
        simpa [hi] using this)
      go_wp2_with fail
      go_ret
      exact ⟨true, rfl, HS.out, HB0.out.trans (HB.out.mono HB0.out.size)⟩

theorem wpList_build_el {ops : Array Oper} {rest : List Oper} {o : Oper} {a : Act} {w : World} {Q : Exit → Act → World → Prop} (hgd : o.guard = none) (x : Operand) (ho : o.op = .buildSlice 72 1 #[(0, x)]) (e : List Int) (he : e.length = 7) (hx : a.eval x = .agg (u8s e))
    (h : wpList Try.prog ops Q rest (a.put o.dst (.slice (some ⟨w.heap.size, 0, none⟩) 1 1)) (w.alloc (.cells (u8s e) 78))) : wpList Try.prog ops Q (o :: rest) a w :=
  wpList_plain hgd fun _ hK => wp_build_el x ho e he hx (hK _ _ h)
theorem wpList_append_el {ops : Array Oper} {rest : List Oper} {o : Oper} {a : Act} {w : World} {Q : Exit → Act → World → Prop} (hgd : o.guard = none) (s x : Operand) (ho : o.op = .call { callee := .builtin .append, args := #[s, x], argTypes := #[72, 72] })
    (B : Nat) (v : Value) (L : List (List Int)) (hs : a.eval s = v) (hO : Oel B w v L) (g : Nat) (e : List Int) (he : e.length = 7) (hx : a.eval x = .slice (some ⟨g, 0, none⟩) 1 1) (hg : Blk w g 78 (u8s e))
    (hl : L.length ≤ 1000000) (hB : B ≤ w.heap.size)
    (h : ∀ v' w', Oel B w' v' (L ++ [e]) → w.grownBy w' v.ownBlock → (v'.ownBlock = v.ownBlock ∨ v'.ownBlock = some w.heap.size) → wpList Try.prog ops Q rest (a.put o.dst v') w') : wpList Try.prog ops Q (o :: rest) a w :=
  wpList_plain hgd fun _ hK => wp_append_el s x ho B v L hs hO g e he hx hg hl hB fun v' w' h1 h2 h3 => hK _ _ (h v' w' h1 h2 h3)

/-- the central elements among the first k -/
def cenTo (G L : List (List Int)) (k : Nat) : List (List Int) := (L.take k).filter fun a => decide (∀ y ∈ G, mulL a y = mulL y a)
theorem cenTo_succ {G L : List (List Int)} {k : Nat} (hk : k < L.length) : cenTo G L (k + 1) = cenTo G L k ++ (if ∀ y ∈ G, mulL (L.getD k []) y = mulL y (L.getD k []) then [L.getD k []] else []) := by
  unfold cenTo
  rw [List.take_succ_eq_append_getElem hk, List.filter_append]
  have e : L.getD k [] = L[k] := by simp [hk]
  rw [e]
  by_cases h : ∀ y ∈ G, mulL L[k] y = mulL y L[k]
  · rw [if_pos h]; simp; exact h
  · rw [if_neg h]; simp; simpa using h
theorem cenTo_len (G L : List (List Int)) (k : Nat) : (cenTo G L k).length ≤ L.length := by
  unfold cenTo
  exact Nat.le_trans (List.length_filter_le _ _) (by rw [List.length_take]; omega)
theorem Oel.below' {B : Nat} {w w' : World} {v : Value} {L : List (List Int)} (h : Oel B w v L) (hb : Below w.heap.size w w') : Oel B w' v L := row_below h hb

set_option maxRecDepth 100000 in
set_option maxHeartbeats 4000000 in
theorem Center_ok (u : Value) (ps : List (List Int)) (w : World) (h : Sps w u ps) (hp : IsGrp ps) :
    Calls Try.prog 25 #[u] w fun e w' => Below w.heap.size w w' ∧ ∃ x G L L', e = .returned (.tuple #[x, .int .i64 0]) ∧ Grp G L ∧ (∀ a, a ∈ L ↔ Gen (pks ps) a) ∧ L'.Perm (cenTo G L L.length) ∧ Asc L' ∧ Owp w.heap.size w' x (L'.map (List.take (ps.getD 0 []).length)) := by
  have HH := Lib.hid h
  have HP := Lib.hid hp
  obtain ⟨a, cap, rfl, _⟩ := h
  obtain ⟨l, hl⟩ : ∃ l, l = ps.length := ⟨_, rfl⟩
  rw [← hl] at HH ⊢
  obtain ⟨n, hn⟩ : ∃ n, n = (ps.getD 0 []).length := ⟨_, rfl⟩
  have HN := Lib.hid hn
  rw [← hn]
  have h7 : n ≤ 7 := by rw [hn]; exact hp.seven
  clear hp hl hn
  go_enter Try.func25, Try.ntmps25
  go_wp2_with fail
  refine (closedOf_any _ ps _ HH.out HP.out.small).mono ?_
  rintro e w1 ⟨hb1, hcase⟩
  obtain ⟨_, c, m, vg, vl, G, L, rfl, ho, hm⟩ := hcase.resolve_left (fun h => h.1 HP.out)
  rw [← HN.out] at ho
  have hlen := ho.grp.len
  have h0 : 0 < L.length := List.length_pos_of_mem ho.grp.one
  obtain ⟨gl, cl, rfl⟩ := ho.clo.rl.form h0
  have HO := Lib.hid ho.clo
  have HG := Lib.hid ho.grp
  have HM := Lib.hid hm
  have HB1 := Lib.hid hb1
  have k2 := ho.clo.cells.cell 2
  clear ho hm hb1 hcase
  go_wp2_with fail
  clear k2
  go_loopw [6, 22] (fun v i wr => ∃ k : Nat, i = .int .i64 k ∧ k ≤ L.length ∧ Hid (Oel w1.heap.size wr v (cenTo G L k)) ∧ Hid (Below w1.heap.size w1 wr)) (fun _ i _ => L.length - (intOf i).toNat)
  case atStart => exact ⟨0, rfl, Nat.zero_le _, Lib.hid (World.ownsRow_nil _ _ _ _), Lib.hid (Below.refl _ _)⟩
  case round =>
    obtain ⟨k, rfl, hk, HV, HB⟩ := hrel
    by_cases hlt : k < L.length
    · have hr := (HO.out.below HB.out).rl.range (fun x hx => (HG.out.els x hx).2) k hlt
      obtain ⟨b, hb⟩ : ∃ b, b = L.getD k [] := ⟨_, rfl⟩
      have hEb : El b := by rw [hb]; exact HG.out.els _ (getD_mem hlt)
      rw [← hb] at hr
      have hcs := cenTo_succ (G := G) hlt
      rw [← hb] at hcs
      have HR := Lib.hid hr
      have HE := Lib.hid hEb
      have HCs := Lib.hid hcs
      have HR0 := Lib.hid (Blk.new wr 78 #[.int .u8 0, .int .u8 0, .int .u8 0, .int .u8 0, .int .u8 0, .int .u8 0, .int .u8 0])
      have HRX := Lib.hid (Blk.setRow HR0.out (u8s b))
      have HBX := Lib.hid (below_row ((Below.refl wr.heap.size wr).alloc (Nat.le_refl _) (.cells #[.int .u8 0, .int .u8 0, .int .u8 0, .int .u8 0, .int .u8 0, .int .u8 0, .int .u8 0] 78)) wr.heap.size (u8s b) (Nat.le_refl _))
      have HBY := Lib.hid (HB.out.trans (HBX.out.mono HB.out.size))
      have HCX := Lib.hid ((HO.out.below HB.out).below HBX.out)
      have HVX := Lib.hid (HV.out.below' HBX.out)
      clear hb hr hEb hcs
      go_wp2_with (first | (refine wpList_load_mid rfl 78 _ rfl gl (k * 7) rfl (b.map (Value.int .u8)) _ HR.out Try.underlying78 rfl (info7 HE.out) ?_) | (refine wpList_store_row rfl 78 _ _ rfl wr.heap.size (u8s b) rfl rfl 78 #[.int .u8 0, .int .u8 0, .int .u8 0, .int .u8 0, .int .u8 0, .int .u8 0, .int .u8 0] HR0.out (infoElem' HE.out.2) (by rw [size_u8s, HE.out.2]; rfl) (u8s_one b) ?_) | (refine wpList_load_row rfl 78 _ rfl wr.heap.size rfl 78 (u8s b) (0, 0) _ HRX.out Try.underlying78 rfl (infoElem' HE.out.2) ?_))
      generalize (wr.alloc (.cells #[.int .u8 0, .int .u8 0, .int .u8 0, .int .u8 0, .int .u8 0, .int .u8 0, .int .u8 0] 78)).setRow wr.heap.size (u8s b) = W at *
      refine (central_any HCX.out HG.out HE.out).mono ?_
      rintro e w2 ⟨r, rfl, hr, hb2⟩
      have HB2 := Lib.hid (HBY.out.trans (hb2.mono HBY.out.size))
      have HQ2 := Lib.hid (HRX.out.below hb2)
      have HV2 := Lib.hid (HVX.out.below' hb2)
      have HRr := Lib.hid hr
      clear hr hb2 HR HR0 HBX HB HV HBY HCX HVX HRX
      cases r with
      | true =>
        have HC2 := Lib.hid (show cenTo G L (k + 1) = cenTo G L k ++ [b] from by rw [HCs.out, if_pos (HRr.out.1 rfl)])
        have hcl := cenTo_len G L k
        obtain ⟨C, hC⟩ : ∃ C, C = cenTo G L k := ⟨_, rfl⟩
        rw [← hC] at HC2 HV2 hcl
        have hz := HB2.out.size
        have HE2 := Lib.hid (Blk.new w2 78 (u8s b))
        have HV3 := Lib.hid (HV2.out.below' ((Below.refl w2.heap.size w2).alloc (Nat.le_refl _) (.cells (u8s b) 78)))
        have HB3 := Lib.hid (HB2.out.alloc hz (.cells (u8s b) 78))
        clear hC
        go_wp2_with (first | (refine wpList_load_row rfl 78 _ rfl wr.heap.size rfl 78 (u8s b) (0, 0) _ HQ2.out Try.underlying78 rfl (infoElem' HE.out.2) ?_) | (refine wpList_build_el rfl _ rfl b HE.out.2 rfl ?_) | (at_builtin; go_loud (refine wpList_append_el rfl _ _ rfl w1.heap.size u6 C rfl HV3.out w2.heap.size b HE.out.2 rfl HE2.out (by omega) (by rw [World.size_alloc]; omega) ?_; intro v' w4 hown hgrow _)))
        have T1 := Lib.hid (show Oel w1.heap.size w4 v' (cenTo G L (k + 1)) from by rw [HC2.out]; exact hown)
        have TB := Lib.hid (HB3.out.grown hgrow (by rw [World.size_alloc]; omega) (fun r e => (World.ownsRow.lt HV3.out r e).1))
        clear hown hgrow
        go_wp2
        go_roundw
        case rel => exact ⟨k + 1, by go_num, by omega, T1, TB⟩
        case measure => simp [intOf]; omega
      | false =>
        have T1 := Lib.hid (show Oel w1.heap.size w2 u6 (cenTo G L (k + 1)) from by
          rw [HCs.out, if_neg (fun h => by have := HRr.out.2 h; cases this), List.append_nil]; exact HV2.out)
        go_wp2_with fail
        go_roundw
        case rel => exact ⟨k + 1, by go_num, by omega, T1, HB2⟩
        case measure => simp [intOf]; omega
    · have hke : k = L.length := by omega
      have HV1 := Lib.hid (show Oel w1.heap.size wr u6 (cenTo G L L.length) from by rw [← hke]; exact HV.out)
      have hE : ∀ x ∈ cenTo G L L.length, El x := fun x hx => by
        unfold cenTo at hx
        rw [List.take_length] at hx
        exact HG.out.els x (List.mem_filter.1 hx).1
      have h1 : idL 7 ∈ cenTo G L L.length := by
        unfold cenTo
        rw [List.take_length]
        exact List.mem_filter.2 ⟨HG.out.one, decide_eq_true fun y hy => by rw [(HG.out.gels y hy).one_mul, (HG.out.gels y hy).mul_one]⟩
      have hpos := List.length_pos_of_mem h1
      have hcl := cenTo_len G L L.length
      have HE := Lib.hid hE
      have HPos := Lib.hid hpos
      have HCl := Lib.hid (show (cenTo G L L.length).length ≤ 900000 by omega)
      obtain ⟨va, vc, rfl⟩ := HV1.out.slice
      clear hE h1 hpos hcl hke HV
      obtain ⟨lc, hlc⟩ : ∃ lc, lc = (cenTo G L L.length).length := ⟨_, rfl⟩
      rw [← hlc] at HV1 ⊢
      clear hlc
      go_wp2_with fail
      refine wp_region_held_all (S := fun w' => Below wr.heap.size wr w') (by kernel_rfl) ?_
      have hS : Below wr.heap.size wr wr.drew := below_drewN' (Below.refl _ _) 1
      refine held_take (i := 0) (v := .slice va lc vc) rfl rfl (by kernel_rfl) (by kernel_rfl) (by kernel_rfl) (fun w' h => by go_simp) hS ?_
      refine held_take (i := 2) (v := .pointer (some ⟨c, 0, none⟩)) rfl rfl (by kernel_rfl) (by kernel_rfl) (by kernel_rfl) (fun w' h => by go_simp) hS ?_
      refine held_take (i := 3) (v := .pointer (some ⟨c, 0, none⟩)) rfl rfl (by kernel_rfl) (by kernel_rfl) (by kernel_rfl) (fun w' h => by go_simp) hS ?_
      refine held_take (i := 4) (v := .pointer (some ⟨c, 0, none⟩)) rfl rfl (by kernel_rfl) (by kernel_rfl) (by kernel_rfl) (fun w' h => by go_simp) hS ?_
      simp [Act.put]
      refine held_take (i := 5) (v := .int .i64 n) rfl rfl (by kernel_rfl) (by kernel_rfl) (by kernel_rfl) (fun w' h => by have h1 := ((HO.out.below HB.out).cells.below h).cell 0; go_simp) hS ?_
      refine held_only (i := 1) rfl rfl (by kernel_rfl) (wp_call_any 64 Try.func64 (by kernel_rfl) rfl _ _ rfl #[.slice va lc vc] rfl ((sorted_any (HV1.out.below' hS) HE.out HPos.out HCl.out).mono ?_))
      rintro e w5 ⟨v1, L', rfl, hp, ha, hO1, hb5⟩
      have hS5 : Below wr.heap.size wr w5 := hS.trans (hb5.mono hS.size)
      refine ⟨_, rfl, hS5, ?_⟩
      have HO1 := Lib.hid hO1
      have HPm := Lib.hid hp
      have HA := Lib.hid ha
      have HE' := Lib.hid (show ∀ x ∈ L', E7 x from fun x hx => (HE.out x (hp.mem_iff.1 hx)).e7)
      have hl' : L'.length ≤ 900000 := by rw [hp.length_eq]; exact HCl.out
      obtain ⟨g1, c1, rfl⟩ := hO1.form (by rw [hp.length_eq]; exact HPos.out)
      clear hO1 hp ha hb5
      simp [Act.put]
      refine held_only (i := 6) rfl rfl (by kernel_rfl) (wp_call_any 63 Try.func63 (by kernel_rfl) rfl _ _ rfl #[.slice (some ⟨g1, 0, none⟩) L'.length c1, .int .i64 n] rfl ((unpackAll_any _ _ L' n w5 HO1.out HE'.out h7 hl').mono ?_))
      rintro e w6 ⟨x, rfl, hx, hb6⟩
      have hS6 : Below wr.heap.size wr w6 := hS5.trans (hb6.mono hS5.size)
      refine ⟨_, rfl, hS6, ?_⟩
      have hz := (HB1.out.trans ((HB.out.trans (hS5.mono HB.out.size)).mono HB1.out.size)).size
      have HX := Lib.hid (hx.mono hz)
      have HB6 := Lib.hid (HB1.out.trans ((HB.out.trans (hS6.mono HB.out.size)).mono HB1.out.size))
      clear hx hb6 hz
      simp [Act.put]
      refine held_take (i := 7) (v := x) rfl rfl (by kernel_rfl) (by kernel_rfl) (by kernel_rfl) (fun w' h => by go_simp) hS6 ?_
      refine held_take (i := 8) (v := .int .i64 0) rfl rfl (by kernel_rfl) (by kernel_rfl) (by kernel_rfl) (fun w' h => by go_simp) hS6 ?_
      refine held_done (by kernel_rfl) ?_
      clear hS hS5 hS6
      simp [Act.put]
      go_wp2_with fail
      go_ret2
      exact ⟨HB6.out, x, G, L, L', rfl, HG.out, HM.out, HPm.out, HA.out, HX.out⟩
end Go.Proofs.Ytdcilefiacohnaa
namespace Go.Proofs.Ytdcilefiacohnaa
open Go Go.RowKit

/-- lists of permutations equal where they have the same members -/
theorem perms_list {n : Nat} {L L' q : List (List Int)} (hp : L'.Perm L) (ha : Asc L') (hn : L.Nodup) (hq : q.Pairwise fun a b => cmpLex a b < 0) (hl : ∀ p ∈ q, p.length = n) (hm : ∀ a, a ∈ L ↔ a ∈ pks q) : L'.map (List.take n) = q := by
  obtain ⟨e1, e2⟩ := pks_rise hl hq
  have e : L' = pks q := asc_uniq (hp.nodup_iff.2 hn) e1 ha e2 fun a => hp.mem_iff.trans (hm a)
  rw [e, pks_take hl]
/-- the central permutations of a list -/
def cenL (ps : List (List Int)) : List (List Int) := ps.filter fun p => decide (∀ r ∈ ps, mulL p r = mulL r p)
def cenLTo (ps : List (List Int)) (k : Nat) : List (List Int) := (ps.take k).filter fun p => decide (∀ r ∈ ps, mulL p r = mulL r p)
theorem cenLTo_succ {ps : List (List Int)} {k : Nat} (hk : k < ps.length) : cenLTo ps (k + 1) = cenLTo ps k ++ (if ∀ r ∈ ps, mulL (ps.getD k []) r = mulL r (ps.getD k []) then [ps.getD k []] else []) := by
  unfold cenLTo
  rw [List.take_succ_eq_append_getElem hk, List.filter_append]
  have e : ps.getD k [] = ps[k] := by simp [hk]
  rw [e]
  by_cases h : ∀ y ∈ ps, mulL ps[k] y = mulL y ps[k]
  · rw [if_pos h]; simp; exact h
  · rw [if_neg h]; simp; simpa using h
theorem cenLTo_len (ps : List (List Int)) (k : Nat) : (cenLTo ps k).length ≤ ps.length := by
  unfold cenLTo
  exact Nat.le_trans (List.length_filter_le _ _) (by rw [List.length_take]; omega)
theorem cenLTo_all (ps : List (List Int)) : cenLTo ps ps.length = cenL ps := by unfold cenLTo cenL; rw [List.take_length]
theorem gen_central {G : List (List Int)} {a y : List Int} (hg : Els G) (ha : El a) (h : ∀ y ∈ G, mulL a y = mulL y a) (hy : Gen G y) : mulL a y = mulL y a := by
  induction hy with
  | one => rw [ha.mul_one, ha.one_mul]
  | step hb hm ih =>
    have hb' := hb.el hg
    rw [← ha.assoc _ hb', ih, hb'.assoc _ ha, h _ hm, ← hb'.assoc _ (hg _ hm)]
/-- the program's center and the reference's -/
theorem center_match {ps G L : List (List Int)} (hp : IsGrp ps) (g : Grp G L) (hm : ∀ a, a ∈ L ↔ Gen (pks ps) a) (a : List Int) : a ∈ cenTo G L L.length ↔ a ∈ pks (cenL ps) := by
  unfold cenTo
  rw [List.take_length, List.mem_filter]
  have hcom : ∀ {p r : List Int}, p ∈ ps → r ∈ ps → (mulL p r = mulL r p ↔ mulL (pk7 p) (pk7 r) = mulL (pk7 r) (pk7 p)) := fun {p r} h1 h2 => by
    obtain ⟨v1, l1⟩ := hp.1.mem h1
    obtain ⟨v2, l2⟩ := hp.1.mem h2
    rw [← pk7_mul v1 v2 (l1.trans l2.symm), ← pk7_mul v2 v1 (l2.trans l1.symm)]
    exact ⟨fun h => by rw [h], fun h => pk7_same (by rw [length_mulL, length_mulL]; exact l1.trans l2.symm) h⟩
  constructor
  · rintro ⟨h1, h2⟩
    have h2 := of_decide_eq_true h2
    obtain ⟨p, hp', rfl⟩ := List.mem_map.1 (hp.2.2 a ((hm a).1 h1))
    refine List.mem_map.2 ⟨p, List.mem_filter.2 ⟨hp', decide_eq_true fun r hr => (hcom hp' hr).2 ?_⟩, rfl⟩
    exact gen_central g.gels (g.els _ h1) h2 ((g.mem _).1 ((hm _).2 (Gen.of_mem hp.1.els (List.mem_map.2 ⟨r, hr, rfl⟩))))
  · intro h
    obtain ⟨p, hp', rfl⟩ := List.mem_map.1 h
    obtain ⟨h1, h2⟩ := List.mem_filter.1 hp'
    have h2 := of_decide_eq_true h2
    refine ⟨(hm _).2 (Gen.of_mem hp.1.els (List.mem_map.2 ⟨p, h1, rfl⟩)), decide_eq_true fun y hy => ?_⟩
    obtain ⟨r, hr, rfl⟩ := List.mem_map.1 (hp.2.2 y ((hm y).1 (g.sub y hy)))
    exact (hcom h1 hr).1 (h2 r hr)

/-- a row of the call's own of slices that came in -/
def RowS (B : Nat) (w wr : World) (v : Value) (qs : List (List Int)) : Prop := ∃ vs : List Value, vs.length = qs.length ∧ wr.ownsRow B 32 1 v qs.length vs ∧ ∀ i, i < qs.length → Sl w (vs.getD i undef) (qs.getD i [])
theorem RowS.sps {B : Nat} {w wr : World} {v : Value} {qs : List (List Int)} (h : RowS B w wr v qs) (hb : Below w.heap.size w wr) : Sps wr v qs := by
  obtain ⟨vs, h1, h2, h3⟩ := h
  rcases h2.2 with ⟨e, h0⟩ | ⟨g, cap, cur, e, _⟩
  · exact ⟨none, 0, by rw [e, h0], .inl (List.length_eq_zero_iff.1 h0)⟩
  · subst e
    refine ⟨_, cap, rfl, .inr ⟨g, 0, rfl, fun i hi => ⟨vs.getD i undef, ?_, (h3 i hi).below hb⟩⟩⟩
    rw [Nat.zero_add, World.ownsRow.cellAt h2 i (by omega)]
    simp [show i < vs.length by omega]

set_option maxRecDepth 100000 in
set_option maxHeartbeats 8000000 in
theorem refCen_any (v : Value) (ps : List (List Int)) (w : World) (h : Sps w v ps) (hg : GenP ps) :
    Calls Try.prog 34 #[v] w fun e w' => ∃ x, e = .returned x ∧ RowS w.heap.size w w' x (cenL ps) ∧ Below w.heap.size w w' := by
  obtain ⟨i1, hq, hq0, hq1, hq2⟩ := info_parts infoPerm3
  obtain ⟨n, hn⟩ : ∃ n, n = (ps.getD 0 []).length := ⟨_, rfl⟩
  have hv0 := (validL_iff _).1 (hg.2.2 0 hg.1).1
  rw [← hn] at hv0
  have h1 := hv0.1
  have h7 := hv0.2.1
  obtain ⟨a, cap, rfl, h⟩ := h
  obtain ⟨m, hm⟩ : ∃ m, m = ps.length := ⟨_, rfl⟩
  have hm1 : 1 ≤ m := by rw [hm]; exact hg.1
  have hm2 : m ≤ 5040 := by rw [hm]; exact hg.2.1
  rcases h with h | ⟨b, off, rfl, h⟩
  · rw [h] at hm; simp at hm; omega
  obtain ⟨x0, g0, _⟩ := h 0 (by omega)
  have hbw : b < w.heap.size := World.block_lt_of_cell? w _ g0
  have HC := Lib.hid h
  have HM := Lib.hid hm
  have HN := Lib.hid hn
  have HG := Lib.hid hg
  have HAll := Lib.hid (cenLTo_all ps)
  rw [← hm] at HAll ⊢
  clear hg hv0 h hm hn g0
  go_enter Try.func34, Try.ntmps34
  go_wp2_with fail
  go_loopw [3, 4] (fun ov iv wr => ∃ i : Nat, iv = .int .i64 i ∧ i ≤ m ∧ Hid (RowS w.heap.size w wr ov (cenLTo ps i)) ∧ Hid (Below w.heap.size w wr)) (fun _ iv _ => m - (intOf iv).toNat)
  case atStart => exact ⟨0, rfl, Nat.zero_le _, Lib.hid ⟨[], rfl, World.ownsRow_nil _ _ _ _, fun i hi => by simp [cenLTo] at hi⟩, Lib.hid (Below.refl _ _)⟩
  case round =>
    obtain ⟨i, rfl, hi, HR, HB⟩ := hrel
    by_cases hli : i < m
    · obtain ⟨wo, rfl⟩ : ∃ wo, wo = wr := ⟨wr, rfl⟩
      obtain ⟨x, x0, sx⟩ := HC.out i (by rw [← HM.out]; omega)
      obtain ⟨pv, pl⟩ := HG.out.2.2 i (by rw [← HM.out]; omega)
      rw [← HN.out] at pl
      have hcs := cenLTo_succ (ps := ps) (k := i) (by rw [← HM.out]; exact hli)
      obtain ⟨p, hp⟩ : ∃ p, p = ps.getD i [] := ⟨_, rfl⟩
      rw [← hp] at sx pv pl hcs
      obtain ⟨xa, xc, e1, _⟩ := id sx
      rw [pl] at e1
      subst e1
      have SX := Lib.hid (sx.below HB.out)
      have SX0 := Lib.hid sx
      have CX := Lib.hid (show ∀ w', Below wo.heap.size wo w' → w'.cell? ⟨b, off + i, none⟩ = some (.slice xa n xc) from fun w' h => ((HB.out.trans (h.mono HB.out.size)).cell (p := ⟨b, off + i, none⟩) hbw).trans x0)
      have PV := Lib.hid pv
      have PL := Lib.hid pl
      have HP := Lib.hid hp
      have HCs := Lib.hid hcs
      clear x0 sx pv pl hp hcs
      go_wp2_with fail
      go_loopw [5, 6] (fun av kv wr => ∃ (k : Nat) (z : Bool), kv = .int .i64 k ∧ av = .bool z ∧ k ≤ m ∧ Hid (z = true ↔ ∀ j, j < k → mulL p (ps.getD j []) = mulL (ps.getD j []) p) ∧ Hid (Below wo.heap.size wo wr)) (fun _ kv _ => m - (intOf kv).toNat)
      case atStart => exact ⟨0, true, rfl, rfl, Nat.zero_le _, Lib.hid ⟨fun _ j hj => by omega, fun _ => rfl⟩, Lib.hid (Below.refl _ _)⟩
      case round =>
        obtain ⟨k, z, rfl, rfl, hk, HZ, HB2⟩ := hrel
        by_cases hlk : k < m
        · obtain ⟨y, y0, sy⟩ := HC.out k (by rw [← HM.out]; omega)
          obtain ⟨qv, ql⟩ := HG.out.2.2 k (by rw [← HM.out]; omega)
          rw [← HN.out] at ql
          obtain ⟨q, hq'⟩ : ∃ q, q = ps.getD k [] := ⟨_, rfl⟩
          rw [← hq'] at sy qv ql
          obtain ⟨ya, yc, e2, _⟩ := id sy
          rw [ql] at e2
          subst e2
          have SY := Lib.hid (sy.below HB.out)
          have CY := Lib.hid (show ∀ w', Below wo.heap.size wo w' → w'.cell? ⟨b, off + k, none⟩ = some (.slice ya n yc) from fun w' h => ((HB.out.trans (h.mono HB.out.size)).cell (p := ⟨b, off + k, none⟩) hbw).trans y0)
          have QV := Lib.hid qv
          have QL := Lib.hid ql
          have HQ := Lib.hid hq'
          clear y0 sy qv ql hq'
          have hS : Below wo.heap.size wo wr.drew := below_drewN' HB2.out 1
          cases z with
          | false =>
            go_wp2_with fail
            refine wp_region_held_all (S := fun w' => Below wo.heap.size wo w') (by kernel_rfl) ?_
            refine held_take (i := 0) (v := .bool false) rfl rfl (by kernel_rfl) (by kernel_rfl) (by kernel_rfl) (fun w' h => by go_simp) hS ?_
            refine held_take (i := 1) (v := .bool false) rfl rfl (by kernel_rfl) (by kernel_rfl) (by kernel_rfl) (fun w' h => by go_simp) hS ?_
            simp [Act.put]
            refine held_skip (i := 2) rfl (by kernel_rfl) (by kernel_rfl) (by kernel_rfl) (by kernel_rfl) hS ?_
            refine held_skip (i := 3) rfl (by kernel_rfl) (by kernel_rfl) (by kernel_rfl) (by kernel_rfl) hS ?_
            refine held_skip (i := 4) rfl (by kernel_rfl) (by kernel_rfl) (by kernel_rfl) (by kernel_rfl) hS ?_
            refine held_skip (i := 5) rfl (by kernel_rfl) (by kernel_rfl) (by kernel_rfl) (by kernel_rfl) hS ?_
            refine held_skip (i := 6) rfl (by kernel_rfl) (by kernel_rfl) (by kernel_rfl) (by kernel_rfl) hS ?_
            simp [Act.put]
            refine held_skip (i := 7) rfl (by kernel_rfl) (by kernel_rfl) (by kernel_rfl) (by kernel_rfl) hS ?_
            refine held_skip (i := 8) rfl (by kernel_rfl) (by kernel_rfl) (by kernel_rfl) (by kernel_rfl) hS ?_
            refine held_skip (i := 9) rfl (by kernel_rfl) (by kernel_rfl) (by kernel_rfl) (by kernel_rfl) hS ?_
            refine held_skip (i := 10) rfl (by kernel_rfl) (by kernel_rfl) (by kernel_rfl) (by kernel_rfl) hS ?_
            refine held_skip (i := 11) rfl (by kernel_rfl) (by kernel_rfl) (by kernel_rfl) (by kernel_rfl) hS ?_
            refine held_skip (i := 12) rfl (by kernel_rfl) (by kernel_rfl) (by kernel_rfl) (by kernel_rfl) hS ?_
            simp [Act.put]
            refine held_skip (i := 13) rfl (by kernel_rfl) (by kernel_rfl) (by kernel_rfl) (by kernel_rfl) hS ?_
            refine held_skip (i := 14) rfl (by kernel_rfl) (by kernel_rfl) (by kernel_rfl) (by kernel_rfl) hS ?_
            refine held_skip (i := 15) rfl (by kernel_rfl) (by kernel_rfl) (by kernel_rfl) (by kernel_rfl) hS ?_
            refine held_skip (i := 16) rfl (by kernel_rfl) (by kernel_rfl) (by kernel_rfl) (by kernel_rfl) hS ?_
            refine held_skip (i := 17) rfl (by kernel_rfl) (by kernel_rfl) (by kernel_rfl) (by kernel_rfl) hS ?_
            simp [Act.put]
            refine held_skip (i := 18) rfl (by kernel_rfl) (by kernel_rfl) (by kernel_rfl) (by kernel_rfl) hS ?_
            refine held_skip (i := 19) rfl (by kernel_rfl) (by kernel_rfl) (by kernel_rfl) (by kernel_rfl) hS ?_
            refine held_skip (i := 20) rfl (by kernel_rfl) (by kernel_rfl) (by kernel_rfl) (by kernel_rfl) hS ?_
            simp [Act.put]
            refine held_take (i := 21) (v := .bool false) rfl rfl (by kernel_rfl) (by kernel_rfl) (by kernel_rfl) (fun w' h => by go_simp) hS ?_
            refine held_take (i := 22) (v := .bool false) rfl rfl (by kernel_rfl) (by kernel_rfl) (by kernel_rfl) (fun w' h => by go_simp) hS ?_
            refine held_done (by kernel_rfl) ?_
            clear hS
            simp [Act.put]
            have HZ2 := Lib.hid (show false = true ↔ ∀ j, j < k + 1 → mulL p (ps.getD j []) = mulL (ps.getD j []) p from ⟨fun h => (by cases h), fun h => HZ.out.2 fun j hj => h j (by omega)⟩)
            have HB3 := Lib.hid (below_drewN' HB2.out 1)
            go_wp2_with fail
            go_roundw
            case rel => exact ⟨k + 1, false, by go_num, rfl, by omega, HZ2, HB3⟩
            case measure => simp [intOf]; omega
          | true =>
            have HIn1 := Lib.hid (show inR p q.length by rw [QL.out, ← PL.out]; exact inR_of_valid PV.out)
            have HIn2 := Lib.hid (show inR q p.length by rw [PL.out, ← QL.out]; exact inR_of_valid QV.out)
            go_wp2_with fail
            refine wp_region_held_all (S := fun w' => Below wo.heap.size wo w') (by kernel_rfl) ?_
            refine held_take (i := 0) (v := .bool true) rfl rfl (by kernel_rfl) (by kernel_rfl) (by kernel_rfl) (fun w' h => by go_simp) hS ?_
            refine held_take (i := 1) (v := .bool true) rfl rfl (by kernel_rfl) (by kernel_rfl) (by kernel_rfl) (fun w' h => by go_simp) hS ?_
            simp [Act.put]
            refine held_take_w (i := 2) (v := .slice (some ⟨b, off, none⟩) m cap) rfl (by kernel_rfl) (by kernel_rfl) (by kernel_rfl) (by kernel_rfl) (fun w' h => by go_simp) hS ?_
            refine held_take_w (i := 3) (v := .int .i64 i) rfl (by kernel_rfl) (by kernel_rfl) (by kernel_rfl) (by kernel_rfl) (fun w' h => by go_simp) hS ?_
            refine held_take_w (i := 4) (v := .pointer (some ⟨b, off + i, none⟩)) rfl (by kernel_rfl) (by kernel_rfl) (by kernel_rfl) (by kernel_rfl) (fun w' h => by go_simp) hS ?_
            refine held_take_w (i := 5) (v := .slice xa n xc) rfl (by kernel_rfl) (by kernel_rfl) (by kernel_rfl) (by kernel_rfl) (fun w' h => by have h1 := CX.out w' h; go_simp) hS ?_
            simp [Act.put]
            refine held_take_w (i := 6) (v := .slice (some ⟨b, off, none⟩) m cap) rfl (by kernel_rfl) (by kernel_rfl) (by kernel_rfl) (by kernel_rfl) (fun w' h => by go_simp) hS ?_
            refine held_take_w (i := 7) (v := .int .i64 k) rfl (by kernel_rfl) (by kernel_rfl) (by kernel_rfl) (by kernel_rfl) (fun w' h => by go_simp) hS ?_
            refine held_take_w (i := 8) (v := .pointer (some ⟨b, off + k, none⟩)) rfl (by kernel_rfl) (by kernel_rfl) (by kernel_rfl) (by kernel_rfl) (fun w' h => by go_simp) hS ?_
            refine held_take_w (i := 9) (v := .slice ya n yc) rfl (by kernel_rfl) (by kernel_rfl) (by kernel_rfl) (by kernel_rfl) (fun w' h => by have h1 := CY.out w' h; go_simp) hS ?_
            simp [Act.put]
            refine held_take_w (i := 11) (v := .slice (some ⟨b, off, none⟩) m cap) rfl (by kernel_rfl) (by kernel_rfl) (by kernel_rfl) (by kernel_rfl) (fun w' h => by go_simp) hS ?_
            refine held_take_w (i := 12) (v := .int .i64 k) rfl (by kernel_rfl) (by kernel_rfl) (by kernel_rfl) (by kernel_rfl) (fun w' h => by go_simp) hS ?_
            refine held_take_w (i := 13) (v := .pointer (some ⟨b, off + k, none⟩)) rfl (by kernel_rfl) (by kernel_rfl) (by kernel_rfl) (by kernel_rfl) (fun w' h => by go_simp) hS ?_
            refine held_take_w (i := 14) (v := .slice ya n yc) rfl (by kernel_rfl) (by kernel_rfl) (by kernel_rfl) (by kernel_rfl) (fun w' h => by have h1 := CY.out w' h; go_simp) hS ?_
            simp [Act.put]
            refine held_take_w (i := 15) (v := .slice (some ⟨b, off, none⟩) m cap) rfl (by kernel_rfl) (by kernel_rfl) (by kernel_rfl) (by kernel_rfl) (fun w' h => by go_simp) hS ?_
            refine held_take_w (i := 16) (v := .int .i64 i) rfl (by kernel_rfl) (by kernel_rfl) (by kernel_rfl) (by kernel_rfl) (fun w' h => by go_simp) hS ?_
            refine held_take_w (i := 17) (v := .pointer (some ⟨b, off + i, none⟩)) rfl (by kernel_rfl) (by kernel_rfl) (by kernel_rfl) (by kernel_rfl) (fun w' h => by go_simp) hS ?_
            refine held_take_w (i := 18) (v := .slice xa n xc) rfl (by kernel_rfl) (by kernel_rfl) (by kernel_rfl) (by kernel_rfl) (fun w' h => by have h1 := CX.out w' h; go_simp) hS ?_
            simp [Act.put]
            have hlp : (mulL p q).length = n := (length_mulL p q).trans PL.out
            have hlq : (mulL q p).length = n := (length_mulL q p).trans QL.out
            have LP := Lib.hid hlp
            have LQ := Lib.hid hlq
            clear hlp hlq
            refine held_only_w (i := 10) rfl (by kernel_rfl) (by kernel_rfl) (wp_call_any 40 Try.func40 (by kernel_rfl) rfl _ _ rfl #[.slice xa n xc, .slice ya n yc] rfl ((refmul_any _ _ p q wr.drew (SX.out.below hS) (SY.out.below hS) (by have := PL.out; omega) (by have := QL.out; omega) HIn1.out).mono ?_))
            rintro e w5 ⟨v, rfl, hv, hb5⟩
            have hS5 : Below wo.heap.size wo w5 := hS.trans (hb5.mono hS.size)
            refine ⟨_, rfl, hS5, ?_⟩
            have HV1 := Lib.hid hv.sl
            obtain ⟨va, vc, e1, _⟩ := hv.sl
            rw [LP.out] at e1
            subst e1
            clear hv hb5
            simp [Act.put]
            refine held_only_w (i := 19) rfl (by kernel_rfl) (by kernel_rfl) (wp_call_any 40 Try.func40 (by kernel_rfl) rfl _ _ rfl #[.slice ya n yc, .slice xa n xc] rfl ((refmul_any _ _ q p w5 (SY.out.below hS5) (SX.out.below hS5) (by have := QL.out; omega) (by have := PL.out; omega) HIn2.out).mono ?_))
            rintro e w6 ⟨v, rfl, hv, hb6⟩
            have hS6 : Below wo.heap.size wo w6 := hS5.trans (hb6.mono hS5.size)
            refine ⟨_, rfl, hS6, ?_⟩
            have HV2 := Lib.hid hv.sl
            have HV1 := Lib.hid (HV1.out.below hb6)
            obtain ⟨va2, vc2, e1, _⟩ := hv.sl
            rw [LQ.out] at e1
            subst e1
            clear hv hb6
            obtain ⟨z, hz⟩ : ∃ z, z = decide (mulL p q = mulL q p) := ⟨_, rfl⟩
            have HCall := Lib.hid (same_any _ _ (mulL p q) (mulL q p) w6 HV1.out HV2.out (by have := LP.out; omega) (by have := LQ.out; omega))
            rw [← hz] at HCall
            have HZz := Lib.hid hz
            clear hz
            simp [Act.put]
            refine held_only_w (i := 20) rfl (by kernel_rfl) (by kernel_rfl) (wp_call_any 42 Try.func42 (by kernel_rfl) rfl _ _ rfl #[.slice va n vc, .slice va2 n vc2] rfl (HCall.out.mono ?_))
            rintro e w7 ⟨rfl, j, rfl⟩
            have hS7 : Below wo.heap.size wo (w6.drewN j) := below_drewN' hS6 j
            refine ⟨_, rfl, hS7, ?_⟩
            generalize w6.drewN j = w7 at *
            simp [Act.put]
            refine held_take (i := 21) (v := .bool z) rfl rfl (by kernel_rfl) (by kernel_rfl) (by kernel_rfl) (fun w' h => by go_simp) hS7 ?_
            refine held_take (i := 22) (v := .bool z) rfl rfl (by kernel_rfl) (by kernel_rfl) (by kernel_rfl) (fun w' h => by go_simp) hS7 ?_
            refine held_done (by kernel_rfl) ?_
            have HZ2 := Lib.hid (show z = true ↔ ∀ j, j < k + 1 → mulL p (ps.getD j []) = mulL (ps.getD j []) p from by
              have h1 := HZ.out.1 (by first | exact trivial | rfl)
              rw [HZz.out]
              constructor
              · intro h j hj
                by_cases e : j = k
                · subst e; rw [← HQ.out]; exact of_decide_eq_true h
                · exact h1 j (by omega)
              · intro h
                have := h k (by omega)
                rw [← HQ.out] at this
                exact decide_eq_true this)
            have HB3 := Lib.hid hS7
            clear hS hS5 hS6 hS7
            simp [Act.put]
            go_wp2_with fail
            go_roundw
            case rel => exact ⟨k + 1, z, by go_num, rfl, by omega, HZ2, HB3⟩
            case measure => simp [intOf]; omega
        · have HZ2 := Lib.hid (show z = true ↔ ∀ r ∈ ps, mulL p r = mulL r p from by
            rw [HZ.out]
            constructor
            · intro h r hr
              obtain ⟨j, hj, rfl⟩ := List.getElem_of_mem hr
              have := h j (by rw [← HM.out] at hj; omega)
              simpa [hj] using this
            · intro h j hj
              exact h _ (by have := HM.out; simp [show j < ps.length by omega]))
          have HBw := Lib.hid (HB.out.trans (HB2.out.mono HB.out.size))
          have cx := CX.out wr HB2.out
          obtain ⟨vs, o1, o2, o3⟩ := HR.out
          have hll := cenLTo_len ps i
          obtain ⟨C, hC⟩ : ∃ C, C = cenLTo ps i := ⟨_, rfl⟩
          rw [← hC] at o1 o2 o3 hll
          rw [← HM.out] at hll
          have HCs2 := Lib.hid (show cenLTo ps (i + 1) = C ++ (if ∀ r ∈ ps, mulL p r = mulL r p then [p] else []) from by rw [hC]; exact HCs.out)
          have O1 := Lib.hid o1
          have O3 := Lib.hid o3
          have P2 : wr.ownsRow w.heap.size 32 1 u3 C.length vs := row_below o2 HB2.out
          have HP2 := Lib.hid P2
          clear o1 o2 o3 hC HZ
          cases z with
          | true =>
            have HE := Lib.hid (show cenLTo ps (i + 1) = C ++ [p] from by rw [HCs2.out, if_pos (HZ2.out.1 rfl)])
            have hz := HBw.out.size
            go_wp2_with (at_builtin; go_loud (refine wpList_append_own _ rfl _ _ 22 rfl w.heap.size 32 i1 (.slice none 0 0) 1 24 Try.underlying22 hq hq0 hq1 hq2 rfl (by decide) u3 C.length vs rfl (P2.alloc _) ⟨wr.heap.size, 0, none⟩ 1 1 [.slice xa n xc] rfl rfl (cell_one_new _ _ _) (by simp [Value.oneCell']) (by unfold maxLen; omega) (by omega) (by simp; omega) ?_; intro v' w3 hown' hgrow _))
            have TR := Lib.hid (show RowS w.heap.size w w3 v' (cenLTo ps (i + 1)) from by
              rw [HE.out]
              refine ⟨vs ++ [.slice xa n xc], by simp [O1.out], by rw [List.length_append]; exact hown', fun j hj => ?_⟩
              rw [List.length_append] at hj
              simp only [List.length_cons, List.length_nil] at hj
              have hl := O1.out
              by_cases e : j < C.length
              · have e1 : (vs ++ [Value.slice xa n xc]).getD j undef = vs.getD j undef := by simp [List.getD_eq_getElem?_getD, List.getElem?_append_left (show j < vs.length by omega)]
                have e2 : (C ++ [p]).getD j [] = C.getD j [] := by simp [List.getD_eq_getElem?_getD, List.getElem?_append_left e]
                rw [e1, e2]; exact O3.out j e
              · have e0 : j = C.length := by omega
                have e1 : (vs ++ [Value.slice xa n xc]).getD j undef = .slice xa n xc := by rw [e0, ← hl]; simp
                have e2 : (C ++ [p]).getD j [] = p := by rw [e0]; simp
                rw [e1, e2]; exact SX0.out)
            have TB := Lib.hid ((HBw.out.alloc hz (.cells #[.slice xa n xc] 32)).grown hgrow (by simp; omega) (fun r e => (P2.lt r e).1))
            clear hown' hgrow P2
            go_wp2
            go_roundw
            case rel => exact ⟨i + 1, by go_num, by omega, TR, TB⟩
            case measure => simp [intOf]; omega
          | false =>
            have HE := Lib.hid (show cenLTo ps (i + 1) = C from by
              rw [HCs2.out, if_neg (fun h => by have := HZ2.out.2 h; cases this), List.append_nil])
            have TR := Lib.hid (show RowS w.heap.size w wr u3 (cenLTo ps (i + 1)) from by rw [HE.out]; exact ⟨vs, O1.out, P2, O3.out⟩)
            clear P2
            go_wp2_with fail
            go_roundw
            case rel => exact ⟨i + 1, by go_num, by omega, TR, HBw⟩
            case measure => simp [intOf]; omega
    · have hke : i = m := by omega
      have TR := Lib.hid (show RowS w.heap.size w wr u3 (cenL ps) from by rw [← HAll.out, ← hke]; exact HR.out)
      clear hke
      go_wp2_with fail
      go_ret
      exact ⟨_, rfl, TR.out, HB.out⟩
end Go.Proofs.Ytdcilefiacohnaa
