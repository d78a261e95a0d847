/- Rows of pairs of elements; the map from elements to steps. -/
import Derived.Test.YtjnjhfificpbbaaCEN
namespace Go.Proofs.Ytjnjhfificpbbaa
open Go Go.RowKit

/-- the cells of a row whose parts are equally long -/
theorem rowsN_get {s : Nat} : ∀ (L : List (List Int)) (k j : Nat), (∀ x ∈ L, x.length = s) → k < L.length → j < s → (rowsV L)[k * s + j]? = ((L.getD k []).map (Value.int .u8))[j]?
  | [], _, _, _, hk, _ => by cases hk
  | x :: L, 0, j, h, _, hj => by
    have hx := h x (by simp)
    simp only [rowsV, List.flatMap_cons, Nat.zero_mul, Nat.zero_add, List.getD_cons_zero]
    rw [List.getElem?_append_left (by rw [List.length_map, hx]; exact hj)]
  | x :: L, k + 1, j, h, hk, hj => by
    have hx := h x (by simp)
    have := rowsN_get L k j (fun y hy => h y (by simp [hy])) (by simpa using hk) hj
    simp only [rowsV, List.flatMap_cons, List.getD_cons_succ] at this ⊢
    have e : (k + 1) * s + j = s + (k * s + j) := by rw [Nat.succ_mul]; omega
    rw [e, List.getElem?_append_right (by rw [List.length_map, hx]; omega), List.length_map, hx, show s + (k * s + j) - s = k * s + j by omega]
    exact this
/-- a row of the call's own, from block B on, that holds the pairs L (each as the fourteen numbers of its elements) -/
def Opr (B : Nat) (w : World) (v : Value) (L : List (List Int)) : Prop := w.ownsRow B 89 14 v L.length (rowsV L)
theorem Opr.below {B : Nat} {w w' : World} {v : Value} {L : List (List Int)} (h : Opr B w v L) (hb : Below w.heap.size w w') : Opr B w' v L := row_below h hb
theorem Opr.nil (B : Nat) (w : World) : Opr B w (.slice none 0 0) [] := World.ownsRow_nil _ _ _ _
theorem Opr.range {B g cap : Nat} {w : World} {n : Nat} {L : List (List Int)} (h : Opr B w (.slice (some ⟨g, 0, none⟩) n cap) L) (hL : ∀ x ∈ L, x.length = 14) (k : Nat) (hk : k < L.length) : w.rangeAt g (k * 14) ((L.getD k []).map (Value.int .u8)) := by
  have hn : n = L.length := by
    rcases h.2 with ⟨e, _⟩ | ⟨g, cap, cur, e, _⟩
    · cases e
    · cases e; rfl
  subst hn
  intro j v hv
  have hx : (L.getD k []).length = 14 := hL _ (getD_mem hk)
  have hj : j < 14 := by
    have := (List.getElem?_eq_some_iff.1 hv).1
    rw [List.length_map, hx] at this; exact this
  rw [World.ownsRow.cellAt h (k * 14 + j) (by omega), rowsN_get L k j hL hk hj]
  exact hv
theorem Opr.form {B : Nat} {w : World} {v : Value} {L : List (List Int)} (h : Opr B w v L) (hn : 0 < L.length) : ∃ g cap, v = .slice (some ⟨g, 0, none⟩) L.length cap := by
  rcases h.2 with ⟨_, h⟩ | ⟨g, cap, cur, h, _⟩
  · omega
  · exact ⟨g, cap, h⟩
theorem Opr.slice {B : Nat} {w : World} {v : Value} {L : List (List Int)} (h : Opr B w v L) : ∃ a cap, v = .slice a L.length cap := by
  rcases h.2 with ⟨h, h0⟩ | ⟨g, cap, cur, h, _⟩
  · exact ⟨none, 0, by rw [h, h0]⟩
  · exact ⟨_, cap, h⟩
/-- numbers that fill so many cells: zero -/
def z14 : Array Value := #[.int .u8 0, .int .u8 0, .int .u8 0, .int .u8 0, .int .u8 0, .int .u8 0, .int .u8 0, .int .u8 0, .int .u8 0, .int .u8 0, .int .u8 0, .int .u8 0, .int .u8 0, .int .u8 0]
def z21 : Array Value := #[.int .u8 0, .int .u8 0, .int .u8 0, .int .u8 0, .int .u8 0, .int .u8 0, .int .u8 0, .int .u8 0, .int .u8 0, .int .u8 0, .int .u8 0, .int .u8 0, .int .u8 0, .int .u8 0, .int .u8 0, .int .u8 0, .int .u8 0, .int .u8 0, .int .u8 0, .int .u8 0, .int .u8 0]
theorem z21_u8 : Value.agg z21 = .agg (u8s (List.replicate 21 0)) := rfl
theorem infoPr : (Try.prog.info? 89).map (fun i => (i.zero, i.size, i.bytes)) = some (some (.agg z14), 14, 14) := by kernel_rfl
theorem infoPr14 {e : List Int} (h : e.length = 14) : (Try.prog.info? 89).map (·.size) = some (e.map (Value.int .u8)).length := by rw [List.length_map, h]; kernel_rfl
theorem infoPr' {e : List Int} (h : e.length = 14) : (Try.prog.info? 89).map (·.size) = some (u8s e).size := by rw [size_u8s, h]; kernel_rfl
theorem infoSt' {e : List Int} (h : e.length = 21) : (Try.prog.info? 112).map (·.size) = some (u8s e).size := by rw [size_u8s, h]; kernel_rfl
theorem fill_pr {e : List Int} (he : e.length = 14) : Instr.fill (fun i => some (i * 14, 14)) ((Array.range (1 * 14)).map ((Value.agg z14).cells[· % (Value.agg z14).cells.size]!)) [(0, .agg (u8s e))] = some (u8s e) := by
  match e, he with
  | [x0, x1, x2, x3, x4, x5, x6, x7, x8, x9, y0, y1, y2, y3], _ => show _ = _; kernel_rfl
/-- a slice of one pair: a new block -/
theorem wp_build_pr {o : Oper} {a : Act} {w : World} {K : Act → World → Prop} {Q : Exit → Act → World → Prop} (x : Operand) (ho : o.op = .buildSlice 85 1 #[(0, x)]) (e : List Int) (he : e.length = 14) (hx : a.eval x = .agg (u8s e))
    (h : K (a.put o.dst (.slice (some ⟨w.heap.size, 0, none⟩) 1 1)) (w.alloc (.cells (u8s e) 89))) : o.wp Try.prog a w K Q := by
  obtain ⟨i0, hi, hz0, hz1, hz2⟩ := info_parts infoPr
  refine wp_buildSlice 85 89 1 _ ho (u8s e) i0 _ Try.underlying85 hi hz0 (by rw [hz1]; decide) (by rw [hz1]; decide) ?_ h
  rw [hz1]
  have : (#[(0, x)].map fun (p : Nat × Operand) => (p.1, a.eval p.2)).toList = [(0, .agg (u8s e))] := by simp [hx]
  rw [this]
  exact fill_pr he
theorem wpList_build_pr {ops : Array Oper} {rest : List Oper} {o : Oper} {a : Act} {w : World} {Q : Exit → Act → World → Prop} (hgd : o.guard = none) (x : Operand) (ho : o.op = .buildSlice 85 1 #[(0, x)]) (e : List Int) (he : e.length = 14) (hx : a.eval x = .agg (u8s e))
    (h : wpList Try.prog ops Q rest (a.put o.dst (.slice (some ⟨w.heap.size, 0, none⟩) 1 1)) (w.alloc (.cells (u8s e) 89))) : wpList Try.prog ops Q (o :: rest) a w :=
  wpList_plain hgd fun _ hK => wp_build_pr x ho e he hx (hK _ _ h)
/-- append of one pair to a row of the call's own -/
theorem wp_append_pr {o : Oper} {a : Act} {w : World} {K : Act → World → Prop} {Q : Exit → Act → World → Prop} (s x : Operand) (ho : o.op = .call { callee := .builtin .append, args := #[s, x], argTypes := #[85, 85] })
    (B : Nat) (v : Value) (L : List (List Int)) (hs : a.eval s = v) (hO : Opr B w v L) (g : Nat) (e : List Int) (he : e.length = 14) (hx : a.eval x = .slice (some ⟨g, 0, none⟩) 1 1) (hg : Blk w g 89 (u8s e))
    (hl : L.length ≤ 1000000) (hB : B ≤ w.heap.size)
    (h : ∀ v' w', Opr B w' v' (L ++ [e]) → w.grownBy w' v.ownBlock → (v'.ownBlock = v.ownBlock ∨ v'.ownBlock = some w.heap.size) → K (a.put o.dst v') w') : o.wp Try.prog a w K Q := by
  obtain ⟨i0, hi, hz0, hz1, hz2⟩ := info_parts infoPr
  obtain ⟨v', w', hr, h2, h3, h4, h5⟩ := run_append_own_at (P := Try.prog) w B 85 o.type 89 i0 _ 14 14 Try.underlying85 hi hz0 hz1 hz2 rfl (by decide) v L.length (rowsV L) hO ⟨g, 0, none⟩ 1 1 (e.map (Value.int .u8)) (by simp [he])
    (fun j u hu => by
      have : (⟨g, 0, none⟩ : Addr).add j = ⟨g, j, none⟩ := by unfold Addr.add; split <;> simp_all
      rw [this, hg.cell j]; simpa [u8s] using hu)
    (fun u hu => by obtain ⟨y, _, rfl⟩ := List.mem_map.1 hu; rfl) (by unfold maxLen; omega) (by omega) hB
  unfold Oper.wp execOp
  simp only [ho, resolve, invoke, builtin, Sem.run_bind, Sem.run_pure, Result.andThen_ok, List.map_toArray, List.map_cons, List.map_nil, hs, hx, hr]
  refine h v' w' ?_ h3 h5
  unfold Opr
  rw [rowsV_snoc]
  simpa using h2
theorem wpList_append_pr {ops : Array Oper} {rest : List Oper} {o : Oper} {a : Act} {w : World} {Q : Exit → Act → World → Prop} (hgd : o.guard = none) (s x : Operand) (ho : o.op = .call { callee := .builtin .append, args := #[s, x], argTypes := #[85, 85] })
    (B : Nat) (v : Value) (L : List (List Int)) (hs : a.eval s = v) (hO : Opr B w v L) (g : Nat) (e : List Int) (he : e.length = 14) (hx : a.eval x = .slice (some ⟨g, 0, none⟩) 1 1) (hg : Blk w g 89 (u8s e))
    (hl : L.length ≤ 1000000) (hB : B ≤ w.heap.size)
    (h : ∀ v' w', Opr B w' v' (L ++ [e]) → w.grownBy w' v.ownBlock → (v'.ownBlock = v.ownBlock ∨ v'.ownBlock = some w.heap.size) → wpList Try.prog ops Q rest (a.put o.dst v') w') : wpList Try.prog ops Q (o :: rest) a w :=
  wpList_plain hgd fun _ hK => wp_append_pr s x ho B v L hs hO g e he hx hg hl hB fun v' w' h1 h2 h3 => hK _ _ (h v' w' h1 h2 h3)

theorem run_mk_pr {a b : List Int} (ha : a.length = 7) (hb : b.length = 7) (w : World) : (Instr.build 89 #[(0, .agg (u8s a)), (1, .agg (u8s b))]).run Try.prog w = .ok (.agg (u8s (a ++ b))) w := by
  refine run_build w 89 _ _ ?_
  match a, ha, b, hb with
  | [x0, x1, x2, x3, x4, x5, x6], _, [y0, y1, y2, y3, y4, y5, y6], _ => show _ = _; kernel_rfl
theorem run_mk_st {a b : List Int} (ha : a.length = 7) (hb : b.length = 14) (w : World) : (Instr.build 112 #[(0, .agg (u8s a)), (1, .agg (u8s b))]).run Try.prog w = .ok (.agg (u8s (a ++ b))) w := by
  refine run_build w 112 _ _ ?_
  match a, ha, b, hb with
  | [x0, x1, x2, x3, x4, x5, x6], _, [y0, y1, y2, y3, y4, y5, y6, y7, y8, y9, z0, z1, z2, z3], _ => show _ = _; kernel_rfl
theorem run_mk_st0 (w : World) : (Instr.build 112 #[]).run Try.prog w = .ok (.agg (u8s (List.replicate 21 0))) w := run_build w 112 _ _ (by kernel_rfl)
theorem wp_mk {o : Oper} {a : Act} {w : World} {K : Act → World → Prop} {Q : Exit → Act → World → Prop} (t : TypeId) (x y : Operand) (ho : o.op = .build t #[(0, x), (1, y)]) (p q r : List Int) (hx : a.eval x = .agg (u8s p)) (hy : a.eval y = .agg (u8s q))
    (hr : (Instr.build t #[(0, .agg (u8s p)), (1, .agg (u8s q))]).run Try.prog w = .ok (.agg (u8s r)) w) (h : K (a.put o.dst (.agg (u8s r))) w) : o.wp Try.prog a w K Q := by
  unfold Oper.wp execOp
  simp only [ho, Sem.run_bind, List.map_toArray, List.map_cons, List.map_nil, hx, hy, hr, Result.andThen_ok]
  exact h
theorem wpList_mk {ops : Array Oper} {rest : List Oper} {o : Oper} {a : Act} {w : World} {Q : Exit → Act → World → Prop} (hgd : o.guard = none) (t : TypeId) (x y : Operand) (ho : o.op = .build t #[(0, x), (1, y)]) (p q r : List Int) (hx : a.eval x = .agg (u8s p)) (hy : a.eval y = .agg (u8s q))
    (hr : (Instr.build t #[(0, .agg (u8s p)), (1, .agg (u8s q))]).run Try.prog w = .ok (.agg (u8s r)) w) (h : wpList Try.prog ops Q rest (a.put o.dst (.agg (u8s r))) w) : wpList Try.prog ops Q (o :: rest) a w :=
  wpList_plain hgd fun _ hK => wp_mk t x y ho p q r hx hy hr (hK _ _ h)

/-- how a step reads: as itself -/
def asIs (v : Value) : Option (DataW Value × List MemPlace) := some (.held v, [])
/-- block b is a map of at most n entries that holds what f says -/
def MapV (w : World) (b n : Nat) (f : List Int → Option (List Int)) : Prop :=
  ∃ D : DataW Value, w.ownsMap Try.prog 78 asIs b n D ∧ ∀ l, E7 l → ∀ z, D.atKey (keyL l) z = ((f l).map fun r => DataW.held (Value.agg (u8s r))).getD z
theorem MapV.new (w : World) : MapV (w.alloc (.map #[] 0)) w.heap.size 0 (fun _ => none) := ⟨.map [], World.ownsMap_made w _ _ _, fun l _ z => by simp; rfl⟩
theorem MapV.lt {w : World} {b n : Nat} {f : List Int → Option (List Int)} (h : MapV w b n f) : b < w.heap.size := let ⟨_, h, _⟩ := h; h.lt
theorem MapV.kept {w w' : World} {b n : Nat} {f : List Int → Option (List Int)} {row : Option Nat} (h : MapV w b n f) (hg : w.grownBy w' row) (hne : some b ≠ row) : MapV w' b n f := by
  obtain ⟨D, h1, h2⟩ := h
  exact ⟨D, h1.kept hg hne, h2⟩
theorem MapV.below {w w' : World} {b n : Nat} {f : List Int → Option (List Int)} (h : MapV w b n f) (hb : Below w.heap.size w w') : MapV w' b n f := by
  obtain ⟨D, ⟨es, clock, h0, h1⟩, h2⟩ := h
  exact ⟨D, ⟨es, clock, (hb.block b (Array.getElem?_eq_some_iff.1 h0).1).trans h0, h1⟩, h2⟩
theorem MapV.isMap {w : World} {b n : Nat} {f : List Int → Option (List Int)} (h : MapV w b n f) : ∃ es clock, w.heap[b]? = some (.map es clock) := by
  obtain ⟨_, ⟨es, clock, h0, _⟩, _⟩ := h
  exact ⟨es, clock, h0⟩
theorem held_inj {a b : Value} (h : (DataW.held a : DataW Value) = .held b) : a = b := by cases h; rfl
theorem zeroStep (w : World) : (zeroValue 112).run Try.prog w = .ok (.agg (u8s (List.replicate 21 0))) w := by kernel_rfl
/-- the comma-ok look-up -/
theorem MapV.look {w : World} {b n : Nat} {f : List Int → Option (List Int)} (h : MapV w b n f) {l : List Int} (hl : E7 l) : (Instr.lookup 113 (.map (some b)) (.agg (u8s l)) true).run Try.prog w = .ok (.tuple #[.agg (u8s ((f l).getD (List.replicate 21 0))), .bool (f l).isSome]) w := by
  obtain ⟨D, ⟨es, clock, hb, F, _, rfl⟩, h2⟩ := h
  have h3 := h2 l hl
  rcases Maps.fit_look true keyedEl Try.underlying113 (zeroStep w) hb F (keyOf_el hl) with ⟨hrun, _, hat⟩ | ⟨e0, y, _, _, hrun, hRv, hat, _⟩
  · have e := (h3 .nil).symm.trans (hat .nil)
    cases hf : f l with
    | none => exact hrun
    | some r => rw [hf] at e; cases e
  · cases hRv
    have e := (h3 .nil).symm.trans (hat .nil)
    cases hf : f l with
    | none => rw [hf] at e; cases e
    | some r =>
      rw [hf] at e
      rw [← held_inj e] at hrun
      exact hrun
theorem MapV.get {w : World} {b n : Nat} {f : List Int → Option (List Int)} (h : MapV w b n f) {l r : List Int} (hl : E7 l) (hf : f l = some r) : (Instr.lookup 113 (.map (some b)) (.agg (u8s l)) false).run Try.prog w = .ok (.agg (u8s r)) w := by
  obtain ⟨D, ⟨es, clock, hb, F, _, rfl⟩, h2⟩ := h
  have h3 := h2 l hl
  rcases Maps.fit_look false keyedEl Try.underlying113 (zeroStep w) hb F (keyOf_el hl) with ⟨hrun, _, hat⟩ | ⟨e0, y, _, _, hrun, hRv, hat, _⟩
  · have e := (h3 .nil).symm.trans (hat .nil)
    rw [hf] at e
    cases e
  · cases hRv
    have e := (h3 .nil).symm.trans (hat .nil)
    rw [hf] at e
    rw [← held_inj e] at hrun
    exact hrun
theorem MapV.set {w : World} {b n : Nat} {f : List Int → Option (List Int)} (h : MapV w b n f) {l r : List Int} (hl : E7 l) (hn : n < maxLen) : ∃ w', (Instr.mapUpdate 113 (.map (some b)) (.agg (u8s l)) (.agg (u8s r))).run Try.prog w = .ok () w' ∧ MapV w' b (n + 1) (fun x => if x = l then some r else f x) ∧ w.grownBy w' (some b) := by
  obtain ⟨D, h1, h2⟩ := h
  obtain ⟨w', hrun, h3, h4⟩ := h1.update keyedEl Try.underlying113 hn (keyOf_el hl) (val := .agg (u8s r)) (d := .held (.agg (u8s r))) (ps := []) rfl
  refine ⟨w', hrun, ⟨_, h3, fun x hx z => ?_⟩, h4⟩
  by_cases e : x = l
  · subst e
    rw [Maps.atKey_put_same h1.isMap (keyedEl.key (keyOf_el hl))]
    simp
  · rw [Maps.atKey_put_other (fun h => e (keyL_inj hx hl h)), h2 x hx z]
    simp [e]
theorem wpList_look_st {ops : Array Oper} {rest : List Oper} {o : Oper} {a : Act} {w : World} {Q : Exit → Act → World → Prop} (hg : o.guard = none) (m x : Operand) (hop : o.op = Op.lookup 113 m x true)
    (b n : Nat) (f : List Int → Option (List Int)) (hm : a.eval m = .map (some b)) (h : MapV w b n f) (l : List Int) (hx : a.eval x = .agg (u8s l)) (hl : E7 l) (hK : wpList Try.prog ops Q rest (a.put o.dst (.tuple #[.agg (u8s ((f l).getD (List.replicate 21 0))), .bool (f l).isSome])) w) : wpList Try.prog ops Q (o :: rest) a w := by
  refine wpList_plain hg fun K' hK' => ?_
  unfold Oper.wp
  simp [execOp, hop, hm, hx, h.look hl, Result.andThen]
  exact hK' _ _ (by simpa using hK)
theorem wpList_get_st {ops : Array Oper} {rest : List Oper} {o : Oper} {a : Act} {w : World} {Q : Exit → Act → World → Prop} (hg : o.guard = none) (m x : Operand) (hop : o.op = Op.lookup 113 m x false)
    (b n : Nat) (f : List Int → Option (List Int)) (hm : a.eval m = .map (some b)) (h : MapV w b n f) (l r : List Int) (hx : a.eval x = .agg (u8s l)) (hl : E7 l) (hf : f l = some r) (hK : wpList Try.prog ops Q rest (a.put o.dst (.agg (u8s r))) w) : wpList Try.prog ops Q (o :: rest) a w := by
  refine wpList_plain hg fun K' hK' => ?_
  unfold Oper.wp
  simp [execOp, hop, hm, hx, h.get hl hf, Result.andThen]
  exact hK' _ _ hK
theorem wpList_put_st {ops : Array Oper} {rest : List Oper} {o : Oper} {a : Act} {w : World} {Q : Exit → Act → World → Prop} (hg : o.guard = none) (m x v : Operand) (hop : o.op = Op.mapUpdate 113 m x v ∨ o.op = Op.insert 113 m x v)
    (b n : Nat) (f : List Int → Option (List Int)) (hm : a.eval m = .map (some b)) (h : MapV w b n f) (hn : n < maxLen) (l r : List Int) (hx : a.eval x = .agg (u8s l)) (hv : a.eval v = .agg (u8s r)) (hl : E7 l)
    (hK : ∀ w', MapV w' b (n + 1) (fun x => if x = l then some r else f x) → w.grownBy w' (some b) → wpList Try.prog ops Q rest (a.put o.dst undef) w') : wpList Try.prog ops Q (o :: rest) a w := by
  refine wpList_plain hg fun K' hK' => ?_
  obtain ⟨w', hrun, h1, h2⟩ := h.set (r := r) hl hn
  unfold Oper.wp
  rcases hop with hop | hop <;> simp [execOp, hop, hm, hx, hv, hrun, Result.andThen] <;> exact hK' _ _ (hK w' h1 h2)
theorem wpList_make_st {ops : Array Oper} {rest : List Oper} {o : Oper} {a : Act} {w : World} {Q : Exit → Act → World → Prop} (hg : o.guard = none) (hop : o.op = Op.makeMap 113 none)
    (hK : wpList Try.prog ops Q rest (a.put o.dst (.map (some w.heap.size))) (w.alloc (.map #[] 0))) : wpList Try.prog ops Q (o :: rest) a w := by
  refine wpList_plain hg fun K' hK' => ?_
  have e : (Instr.makeMap 113 none).run Try.prog w = .ok (.map (some w.heap.size)) (w.alloc (.map #[] 0)) := rfl
  unfold Oper.wp
  simp [execOp, hop, e, Result.andThen]
  exact hK' _ _ hK
/-- the other rows and blocks stay when the map is written, and the map when they are -/
theorem MapV.blk {w w' : World} {m b n : Nat} {f : List Int → Option (List Int)} {t : TypeId} {cs : Array Value} (h : MapV w m n f) (hb : Blk w b t cs) (hg : w.grownBy w' (some m)) : Blk w' b t cs := by
  refine (hg.block b hb.lt fun e => ?_).trans hb
  obtain ⟨es, c, h0⟩ := h.isMap
  rw [Option.some.inj e] at hb
  unfold Blk at hb
  rw [h0] at hb
  cases hb
theorem MapV.row {B sz n m k : Nat} {w w' : World} {f : List Int → Option (List Int)} {e : TypeId} {v : Value} {xs : List Value} (h : MapV w m k f) (hv : w.ownsRow B e sz v n xs) (hg : w.grownBy w' (some m)) : w'.ownsRow B e sz v n xs := by
  refine hv.kept hg ?_
  cases hq : v.ownBlock with
  | none => exact .inl rfl
  | some b =>
    refine .inr fun e1 => ?_
    obtain ⟨c1, k1⟩ := row_typ hv b hq
    obtain ⟨es, c, h0⟩ := h.isMap
    rw [Option.some.inj e1, h0] at k1
    cases k1
theorem MapV.other {w w' : World} {m n : Nat} {f : List Int → Option (List Int)} {row : Option Nat} {t : TypeId} (h : MapV w m n f) (hg : w.grownBy w' row) (ht : ∀ b, row = some b → ∃ cur, w.heap[b]? = some (.cells cur t (0, 0))) : MapV w' m n f := by
  refine h.kept hg fun e => ?_
  obtain ⟨c1, k1⟩ := ht m e.symm
  obtain ⟨es, c, h0⟩ := h.isMap
  rw [h0] at k1
  cases k1
end Go.Proofs.Ytjnjhfificpbbaa
