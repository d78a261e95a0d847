/- The struct closed, and its closure add. -/
import Derived.Test.YtdcilefiacohnaaElem2
import Derived.Test.YtdcilefiacohnaaMapE
import Derived.Test.YtdcilefiacohnaaQHeld
import Derived.Test.YtdcilefiacohnaaGen
import Derived.Great.BuildSlice
import Derived.Maps.AppendAt
namespace Go.Proofs.Ytdcilefiacohnaa
open Go Go.RowKit

/-- the cells of a row of elements -/
def rowsV (L : List (List Int)) : List Value := L.flatMap fun l => l.map (Value.int .u8)
/-- a row of the call's own, from block B on, that holds the elements L -/
def Oel (B : Nat) (w : World) (v : Value) (L : List (List Int)) : Prop := w.ownsRow B 78 7 v L.length (rowsV L)

theorem run_row_op {P : Program} {o : Oper} {a : Act} {w : World} (ty : TypeId) (x : Operand) (ho : o.op = .load ty x) (g : Nat) (hx : a.eval x = .pointer (some ⟨g, 0, none⟩)) (t : TypeId) (cs : Array Value) (fr : Nat × Nat) (d : TypeDesc)
    (hg : w.heap[g]? = some (.cells cs t fr)) (hu : P.underlying ty = some d) (hd : (match d with | .struct _ | .array _ _ => true | _ => false) = true) (hi : (P.info? ty).map (·.size) = some cs.size) : (execOp a.eval o).run P w = .ok (.value (.agg cs)) w := by
  unfold execOp
  simp only [ho, hx, Instr.loadAt, Instr.sureAddr, Sem.run_bind, Sem.run_pure, Result.andThen_ok, run_loadVar_row w g t ty cs fr d hg hu hd hi]
theorem run_look_op {o : Oper} {a : Act} {w : World} (m x : Operand) (hop : o.op = Op.lookup 73 m x false) (b : Nat) (L : List (List Int)) (hm : a.eval m = .map (some b)) (h : MapS w b L) (l : List Int) (hx : a.eval x = .agg (u8s l)) (hl : E7 l) :
    (execOp a.eval o).run Try.prog w = .ok (.value (.bool (decide (l ∈ L)))) w := by
  simp [execOp, hop, hm, hx, h.get hl, Result.andThen]

theorem infoEl : (Try.prog.info? 78).map (fun i => (i.zero, i.size, i.bytes)) = some (some (.agg #[.int .u8 0, .int .u8 0, .int .u8 0, .int .u8 0, .int .u8 0, .int .u8 0, .int .u8 0]), 7, 7) := by kernel_rfl
theorem fill_one {e : List Int} (he : e.length = 7) : Instr.fill (fun i => some (i * 7, 7)) ((Array.range (1 * 7)).map ((Value.agg #[.int .u8 0, .int .u8 0, .int .u8 0, .int .u8 0, .int .u8 0, .int .u8 0, .int .u8 0]).cells[· % (Value.agg #[.int .u8 0, .int .u8 0, .int .u8 0, .int .u8 0, .int .u8 0, .int .u8 0, .int .u8 0]).cells.size]!)) [(0, .agg (u8s e))] = some (u8s e) := by
  match e, he with
  | [x0, x1, x2, x3, x4, x5, x6], _ => show _ = _; kernel_rfl
/-- a slice of one element: a new block -/
theorem wp_build_el {o : Oper} {a : Act} {w : World} {K : Act → World → Prop} {Q : Exit → Act → World → Prop} (x : Operand) (ho : o.op = .buildSlice 72 1 #[(0, x)]) (e : List Int) (he : e.length = 7) (hx : a.eval x = .agg (u8s e))
    (h : K (a.put o.dst (.slice (some ⟨w.heap.size, 0, none⟩) 1 1)) (w.alloc (.cells (u8s e) 78))) : o.wp Try.prog a w K Q := by
  obtain ⟨i0, hi, hz0, hz1, hz2⟩ := info_parts infoEl
  refine wp_buildSlice 72 78 1 _ ho (u8s e) i0 _ Try.underlying72 hi hz0 (by rw [hz1]; decide) (by rw [hz1]; decide) ?_ h
  rw [hz1]
  have : (#[(0, x)].map fun (p : Nat × Operand) => (p.1, a.eval p.2)).toList = [(0, .agg (u8s e))] := by simp [hx]
  rw [this]
  exact fill_one he
theorem rowsV_snoc (L : List (List Int)) (e : List Int) : rowsV (L ++ [e]) = rowsV L ++ e.map (Value.int .u8) := by simp [rowsV]
/-- append of one element to a row of the call's own -/
theorem wp_append_el {o : Oper} {a : Act} {w : World} {K : Act → World → Prop} {Q : Exit → Act → World → Prop} (s x : Operand) (ho : o.op = .call { callee := .builtin .append, args := #[s, x], argTypes := #[72, 72] })
    (B : Nat) (v : Value) (L : List (List Int)) (hs : a.eval s = v) (hO : Oel B w v L) (g : Nat) (e : List Int) (he : e.length = 7) (hx : a.eval x = .slice (some ⟨g, 0, none⟩) 1 1) (hg : Blk w g 78 (u8s e))
    (hl : L.length ≤ 1000000) (hB : B ≤ w.heap.size)
    (h : ∀ v' w', Oel B w' v' (L ++ [e]) → w.grownBy w' v.ownBlock → (v'.ownBlock = v.ownBlock ∨ v'.ownBlock = some w.heap.size) → K (a.put o.dst v') w') : o.wp Try.prog a w K Q := by
  obtain ⟨i0, hi, hz0, hz1, hz2⟩ := info_parts infoEl
  obtain ⟨v', w', hr, h2, h3, h4, h5⟩ := run_append_own_at (P := Try.prog) w B 72 o.type 78 i0 _ 7 7 Try.underlying72 hi hz0 hz1 hz2 rfl (by decide) v L.length (rowsV L) hO ⟨g, 0, none⟩ 1 1 (e.map (Value.int .u8)) (by simp [he])
    (fun j u hu => by
      have : (⟨g, 0, none⟩ : Addr).add j = ⟨g, j, none⟩ := by unfold Addr.add; split <;> simp_all
      rw [this, hg.cell j]; simpa [u8s] using hu)
    (fun u hu => by obtain ⟨y, _, rfl⟩ := List.mem_map.1 hu; rfl) (by unfold maxLen; omega) (by omega) hB
  unfold Oper.wp execOp
  simp only [ho, resolve, invoke, builtin, Sem.run_bind, Sem.run_pure, Result.andThen_ok, List.map_toArray, List.map_cons, List.map_nil, hs, hx, hr]
  refine h v' w' ?_ h3 h5
  unfold Oel
  rw [rowsV_snoc]
  simpa using h2

/-- the list with an element added that it lacks -/
def addE (L : List (List Int)) (e : List Int) : List (List Int) := if e ∈ L then L else L ++ [e]
/-- Block m is the set of the elements on the list L. -/
def SetOf (w : World) (m : Nat) (L : List (List Int)) : Prop := ∃ M, MapS w m M ∧ M.length = L.length ∧ ∀ x, x ∈ M ↔ x ∈ L

/-- what a call of add leaves: only the struct, its set and its list turn -/
structure Added (B c m : Nat) (n : Int) (vg vl : Value) (L : List (List Int)) (w w' : World) (vl' : Value) : Prop where
  cells : Blk w' c 75 #[.int .i64 n, vg, vl', .map (some m)]
  set : SetOf w' m L
  row : Oel B w' vl' L
  at' : vl'.ownBlock = vl.ownBlock ∨ ∃ g, vl'.ownBlock = some g ∧ w.heap.size ≤ g
  os : w'.os = w.os
  tape : w'.tape = w.tape
  output : w'.output = w.output
  size : w.heap.size ≤ w'.heap.size
  block : ∀ b, b < w.heap.size → b ≠ c → b ≠ m → some b ≠ vl.ownBlock → w'.heap[b]? = w.heap[b]?

set_option maxRecDepth 100000 in
set_option maxHeartbeats 1000000 in
theorem add_any (B c m p : Nat) (n : Int) (vg vl : Value) (L : List (List Int)) (e : List Int) (w : World) (he : E7 e) (hp : Blk w p 58 #[.pointer (some ⟨c, 0, none⟩)])
    (hc : Blk w c 75 #[.int .i64 n, vg, vl, .map (some m)]) (hs : SetOf w m L) (hO : Oel B w vl L) (hn : L.length ≤ 900000) (hB : B ≤ w.heap.size)
    (d1 : p ≠ c) (d2 : p ≠ m) (d3 : some p ≠ vl.ownBlock) (d4 : c ≠ m) (d5 : some c ≠ vl.ownBlock) (d6 : some m ≠ vl.ownBlock) :
    Calls Try.prog 92 #[.agg (u8s e), .pointer (some ⟨p, 0, none⟩)] w fun r w' => r = .returned (.tuple #[]) ∧ ∃ vl', Added B c m n vg vl (addE L e) w w' vl' := by
  obtain ⟨M, hm, hl, hM⟩ := hs
  have b1 := Blk.new w 78 (u8s e)
  have HE := Lib.hid b1
  have HP := Lib.hid (hp.alloc (.cells (u8s e) 78))
  have HC := Lib.hid (hc.alloc (.cells (u8s e) 78))
  have HB := Lib.hid ((Below.refl w.heap.size w).alloc (Nat.le_refl _) (.cells (u8s e) 78))
  have HM := Lib.hid (hm.below HB.out)
  have HO := Lib.hid (show Oel B _ vl L from World.ownsRow.alloc hO (.cells (u8s e) 78))
  have hlp := hp.lt
  have hlc := hc.lt
  have hlm := hm.lt
  have HLO := Lib.hid (World.ownsRow.lt hO)
  have HMM := Lib.hid hM
  have HLL := Lib.hid hl
  have HD := Lib.hid (And.intro d1 (And.intro d2 (And.intro d3 (And.intro d4 (And.intro d5 d6)))))
  have HBw := Lib.hid hB
  have HN := Lib.hid hn
  have hnM : M.length < maxLen := by unfold maxLen; omega
  clear b1 hp hc hm hO hM hl d1 d2 d3 d4 d5 d6 hB hn
  go_enter Try.func92, Try.ntmps92
  go_wp2
  generalize w.alloc (.cells (u8s e) 78) = W at *
  refine wp_region_held_then (S := fun w' => Below W.heap.size W w') 7 (by kernel_rfl) (by kernel_rfl) ?_
  have hS : Below W.heap.size W W.drew := below_drewN' (Below.refl _ _) 1
  simp only [List.take_succ_cons, List.take_zero, List.drop_succ_cons, List.drop_zero]
  refine held_take (i := 0) (v := .pointer (some ⟨c, 0, none⟩)) rfl rfl (by kernel_rfl) (by kernel_rfl) (by kernel_rfl) (fun w' h => ?_) hS ?_
  · have h1 := (HP.out.below h).cell 0
    go_simp
  refine held_take (i := 1) (v := .pointer (some ⟨c, 0, none⟩)) rfl rfl (by kernel_rfl) (by kernel_rfl) (by kernel_rfl) (fun w' h => by go_simp) hS ?_
  refine held_take (i := 2) (v := .pointer (some ⟨c, 3, none⟩)) rfl rfl (by kernel_rfl) (by kernel_rfl) (by kernel_rfl) (fun w' h => by go_simp) hS ?_
  refine held_take (i := 3) (v := .map (some m)) rfl rfl (by kernel_rfl) (by kernel_rfl) (by kernel_rfl) (fun w' h => ?_) hS ?_
  · have h1 := (HC.out.below h).cell 3
    go_simp
  refine held_take (i := 4) (v := .agg (u8s e)) rfl rfl (by kernel_rfl) (by kernel_rfl) (by kernel_rfl) (fun w' h => run_row_op 78 _ rfl w.heap.size rfl 78 (u8s e) (0, 0) _ (HE.out.below h) Try.underlying78 rfl (infoElem' he.1)) hS ?_
  refine held_take (i := 5) (v := .bool (decide (e ∈ M))) rfl rfl (by kernel_rfl) (by kernel_rfl) (by kernel_rfl) (fun w' h => run_look_op _ _ rfl m M rfl (HM.out.below h) e rfl he) hS ?_
  refine held_take (i := 6) (v := .bool (!decide (e ∈ M))) rfl rfl (by kernel_rfl) (by kernel_rfl) (by kernel_rfl) (fun w' h => by go_simp) hS ?_
  refine held_done (by kernel_rfl) ?_
  by_cases hin : e ∈ M
  · have hd : decide (e ∈ M) = true := by simp [hin]
    rw [hd]
    have HIN := Lib.hid hin
    have HS := Lib.hid hS
    clear hS hin hd
    go_simp
    go_wp2
    go_end0
    refine ⟨rfl, vl, ?_⟩
    have hb := HB.out.trans (HS.out.mono HB.out.size)
    rw [show addE L e = L by unfold addE; rw [if_pos ((HMM.out e).1 HIN.out)]]
    exact ⟨HC.out.below HS.out, ⟨M, HM.out.below HS.out, HLL.out, HMM.out⟩, World.ownsRow.kept HO.out (row := none) ⟨HS.out.os, HS.out.tape, HS.out.output, HS.out.size, fun k hk _ => HS.out.block k hk⟩ (by cases hq : vl.ownBlock <;> simp), .inl rfl, hb.os, hb.tape, hb.output, hb.size, fun b h _ _ _ => hb.block b h⟩
  · have hd : decide (e ∈ M) = false := by simp [hin]
    rw [hd]
    have HIN := Lib.hid hin
    clear hin hd
    go_simp
    go_wp2
    clear hS
    obtain ⟨W2, hW2⟩ : ∃ X, X = W.drew := ⟨_, rfl⟩
    rw [← hW2]
    refine wp_region_held_then (S := fun w' => Below W.heap.size W w') 5 (by kernel_rfl) (by kernel_rfl) ?_
    have hS : Below W.heap.size W W2.drew := by rw [hW2]; exact below_drewN' (below_drewN' (Below.refl _ _) 1) 1
    simp only [List.take_succ_cons, List.take_zero, List.drop_succ_cons, List.drop_zero]
    refine held_take (i := 0) (v := .pointer (some ⟨c, 0, none⟩)) rfl rfl (by kernel_rfl) (by kernel_rfl) (by kernel_rfl) (fun w' h => ?_) hS ?_
    · have h1 := (HP.out.below h).cell 0
      go_simp
    refine held_take (i := 1) (v := .pointer (some ⟨c, 0, none⟩)) rfl rfl (by kernel_rfl) (by kernel_rfl) (by kernel_rfl) (fun w' h => by go_simp) hS ?_
    refine held_take (i := 2) (v := .pointer (some ⟨c, 3, none⟩)) rfl rfl (by kernel_rfl) (by kernel_rfl) (by kernel_rfl) (fun w' h => by go_simp) hS ?_
    refine held_take (i := 3) (v := .map (some m)) rfl rfl (by kernel_rfl) (by kernel_rfl) (by kernel_rfl) (fun w' h => ?_) hS ?_
    · have h1 := (HC.out.below h).cell 3
      go_simp
    refine held_take (i := 4) (v := .agg (u8s e)) rfl rfl (by kernel_rfl) (by kernel_rfl) (by kernel_rfl) (fun w' h => run_row_op 78 _ rfl w.heap.size rfl 78 (u8s e) (0, 0) _ (HE.out.below h) Try.underlying78 rfl (infoElem' he.1)) hS ?_
    refine held_done (by kernel_rfl) ?_
    refine wpList_put_set rfl _ _ _ rfl m M rfl (HM.out.below hS) hnM e rfl rfl he ?_
    intro W3 hM3 hg3
    have HS2 := Lib.hid hS
    have HG3 := Lib.hid hg3
    have HM3 := Lib.hid hM3
    clear hS hg3 hM3 HM
    go_simp
    go_wp2
    clear hW2
    -- what stands in W3
    have hWs : w.heap.size < W.heap.size := HE.out.lt
    have h3 : ∀ b, b < W.heap.size → b ≠ m → W3.heap[b]? = W.heap[b]? := fun b hb hne => (HG3.out.block b (Nat.lt_of_lt_of_le hb HS2.out.size) (by simpa using hne)).trans (HS2.out.block b hb)
    have hsz3 : W.heap.size ≤ W3.heap.size := Nat.le_trans HS2.out.size HG3.out.size
    have P3 := Lib.hid (show Blk W3 p 58 #[.pointer (some ⟨c, 0, none⟩)] from (h3 p (by omega) HD.out.2.1).trans HP.out)
    have C3 := Lib.hid (show Blk W3 c 75 #[.int .i64 n, vg, vl, .map (some m)] from (h3 c (by omega) HD.out.2.2.2.1).trans HC.out)
    have E3 := Lib.hid (show Blk W3 w.heap.size 78 (u8s e) from (h3 w.heap.size hWs (by omega)).trans HE.out)
    have O3 := Lib.hid (show Oel B W3 vl L from World.ownsRow.kept (World.ownsRow.kept HO.out (row := none) ⟨HS2.out.os, HS2.out.tape, HS2.out.output, HS2.out.size, fun k hk _ => HS2.out.block k hk⟩ (by cases hq : vl.ownBlock <;> simp)) HG3.out (.inr (fun h => HD.out.2.2.2.2.2 h.symm)))
    obtain ⟨W4, hW4⟩ : ∃ X, X = W3.drew := ⟨_, rfl⟩
    refine wp_region_held_then (S := fun w' => ∀ b, b < W3.heap.size → some b ≠ vl.ownBlock → w'.heap[b]? = W3.heap[b]?) 8 (by kernel_rfl) (by kernel_rfl) ?_
    have hS : ∀ b, b < W3.heap.size → some b ≠ vl.ownBlock → W3.drew.heap[b]? = W3.heap[b]? := fun b _ _ => rfl
    have hcS : c < W3.heap.size := C3.out.lt
    have hpS : p < W3.heap.size := P3.out.lt
    have heS : w.heap.size < W3.heap.size := E3.out.lt
    have hen : some w.heap.size ≠ vl.ownBlock := fun h => by have := (HLO.out _ h.symm).2; omega
    clear hW4 HP HC HE HO
    simp only [List.take_succ_cons, List.take_zero, List.drop_succ_cons, List.drop_zero]
    refine held_take (i := 0) (v := .pointer (some ⟨c, 0, none⟩)) rfl rfl (by kernel_rfl) (by kernel_rfl) (by kernel_rfl) (fun w' h => ?_) hS ?_
    · have h1 : Blk w' p _ _ := (h p hpS HD.out.2.2.1).trans P3.out
      have h2 := h1.cell 0
      go_simp
    refine held_take (i := 1) (v := .pointer (some ⟨c, 0, none⟩)) rfl rfl (by kernel_rfl) (by kernel_rfl) (by kernel_rfl) (fun w' h => ?_) hS ?_
    · have h1 : Blk w' p _ _ := (h p hpS HD.out.2.2.1).trans P3.out
      have h2 := h1.cell 0
      go_simp
    refine held_take (i := 2) (v := .pointer (some ⟨c, 0, none⟩)) rfl rfl (by kernel_rfl) (by kernel_rfl) (by kernel_rfl) (fun w' h => by go_simp) hS ?_
    refine held_take (i := 3) (v := .pointer (some ⟨c, 2, none⟩)) rfl rfl (by kernel_rfl) (by kernel_rfl) (by kernel_rfl) (fun w' h => by go_simp) hS ?_
    refine held_take (i := 4) (v := vl) rfl rfl (by kernel_rfl) (by kernel_rfl) (by kernel_rfl) (fun w' h => ?_) hS ?_
    · have h1 : Blk w' c _ _ := (h c hcS HD.out.2.2.2.2.1).trans C3.out
      have h2 := h1.cell 2
      go_simp
    refine held_take (i := 5) (v := .agg (u8s e)) rfl rfl (by kernel_rfl) (by kernel_rfl) (by kernel_rfl) (fun w' h => run_row_op 78 _ rfl w.heap.size rfl 78 (u8s e) (0, 0) _ ((h w.heap.size heS hen).trans E3.out) Try.underlying78 rfl (infoElem' he.1)) hS ?_
    simp [Act.put]
    refine held_only (i := 6) rfl rfl (by kernel_rfl) (wp_build_el _ rfl e he.1 rfl ⟨fun b hb _ => Below.heap_alloc W3.drew _ b hb, ?_⟩)
    have hX := Blk.new W3.drew 78 (u8s e)
    have hOX : Oel B (W3.drew.alloc (.cells (u8s e) 78)) vl L := World.ownsRow.alloc (w := W3.drew) (World.ownsRow.drew O3.out) _
    have hBX : B ≤ (W3.drew.alloc (.cells (u8s e) 78)).heap.size := by have := HBw.out; rw [World.size_alloc]; show B ≤ W3.heap.size + 1; omega
    have hLX : L.length ≤ 1000000 := by have := HN.out; omega
    simp [Act.put]
    refine held_only (i := 7) rfl rfl (by kernel_rfl) (wp_append_el _ _ rfl B vl L rfl hOX W3.drew.heap.size e he.1 rfl hX hLX hBX ?_)
    intro vl' W5 hO5 hg5 hat5
    rw [World.size_alloc] at hat5
    have h5 : ∀ b, b < W3.heap.size → some b ≠ vl.ownBlock → W5.heap[b]? = W3.heap[b]? := fun b hb hne => (hg5.block b (by rw [World.size_alloc]; show b < W3.heap.size + 1; omega) hne).trans (Below.heap_alloc W3.drew _ b hb)
    refine ⟨h5, held_done (by kernel_rfl) ?_⟩
    obtain ⟨g5, cap5, rfl⟩ : ∃ g cap, vl' = .slice (some ⟨g, 0, none⟩) (L ++ [e]).length cap := by
      rcases hO5.2 with ⟨_, h⟩ | ⟨g, cap, cur, h, _⟩
      · simp at h
      · exact ⟨g, cap, h⟩
    have C5 := Lib.hid (show Blk W5 c 75 #[.int .i64 n, vg, vl, .map (some m)] from (h5 c hcS HD.out.2.2.2.2.1).trans C3.out)
    have hcur := C5.out.cell 2
    have hfr := C5.out.free 2
    have H5 := Lib.hid h5
    have HG5 := Lib.hid hg5
    have HA5 := Lib.hid hat5
    have HO5 := Lib.hid hO5
    clear hS hen h5 hg5 hat5 hO5 hX
    go_simp
    go_wp2
    go_end0
    have e1 : (L ++ [e]).length = L.length + 1 := by simp
    have hA := HA5.out
    have hO6 := HO5.out
    rw [e1] at hA hO6
    obtain ⟨v, hv⟩ : ∃ v, v = Value.slice (some ⟨g5, 0, none⟩) (L.length + 1) cap5 := ⟨_, rfl⟩
    rw [← hv] at hA hO6 ⊢
    have hbs : Below 0 W5 (W5.setCell ⟨c, 2, none⟩ v) := (Below.refl 0 W5).setCell (Nat.zero_le _) _
    have hoth : ∀ b, b ≠ c → (W5.setCell ⟨c, 2, none⟩ v).heap[b]? = W5.heap[b]? := fun b hne => heap_setCell_other W5 ⟨c, 2, none⟩ b v hne
    have hnc : v.ownBlock ≠ some c := by
      intro h
      rcases hA with h1 | h1
      · rw [h1] at h; exact HD.out.2.2.2.2.1 h.symm
      · rw [h1] at h
        have := Option.some.inj h
        have e2 : W3.drew.heap.size = W3.heap.size := rfl
        omega
    have z1 := HB.out.size
    have z5 := HG5.out.size
    rw [World.size_alloc] at z5
    have z5' : W3.heap.size + 1 ≤ W5.heap.size := z5
    have z6 := hbs.size
    refine ⟨rfl, v, ?_⟩
    rw [show addE L e = L ++ [e] by unfold addE; rw [if_neg (fun h => HIN.out ((HMM.out e).2 h))]]
    refine ⟨?_, ⟨e :: M, HM3.out.same ((hoth m HD.out.2.2.2.1.symm).trans (H5.out m (by omega) HD.out.2.2.2.2.2)), by simp [HLL.out], fun x => by simp [HMM.out x, or_comm]⟩, ?_, ?_, ?_, ?_, ?_, by omega, ?_⟩
    · have := C5.out.set 2 v
      simpa using this
    · exact World.ownsRow.kept hO6 (row := some c) ⟨hbs.os, hbs.tape, hbs.output, hbs.size, fun k _ hne => hoth k (fun h => hne (by rw [h]))⟩ (.inr hnc)
    · rcases hA with h1 | h1
      · exact .inl h1
      · exact .inr ⟨_, h1, by show w.heap.size ≤ W3.heap.size + 1; omega⟩
    · exact hbs.os.trans (HG5.out.os.trans (HG3.out.os.trans (HS2.out.os.trans HB.out.os)))
    · exact hbs.tape.trans (HG5.out.tape.trans (HG3.out.tape.trans (HS2.out.tape.trans HB.out.tape)))
    · exact hbs.output.trans (HG5.out.output.trans (HG3.out.output.trans (HS2.out.output.trans HB.out.output)))
    · exact fun b hb hbc hbm hbv => (hoth b hbc).trans ((H5.out b (by omega) hbv).trans ((h3 b (by omega) hbm).trans (HB.out.block b hb)))
end Go.Proofs.Ytdcilefiacohnaa
