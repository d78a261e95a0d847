/- slices.Values' iterator at elements, and AppendSeq and Collect over it. -/
import Derived.Test.YtdcilefiacohnaaProg
import Derived.Test.YtdcilefiacohnaaRangeA
import Derived.Test.YtdcilefiacohnaaExt
import Derived.Shelf.Abstract
import Derived.OwnWalkIn
import Derived.TacticsInMore
import Derived.LoopNIn
import Derived.LoopIn
import Derived.RegionIn
import Derived.Maps.OwnIn
import Derived.Deep.MidRow
import Derived.Great.BuildSlice
namespace Go.Proofs.Ytdcilefiacohnaa
open Go Go.RowKit Go.Shelf
attribute [local go_sem] Oper.semAt_some

section
variable {F : Fence} {n : Nat} {P : Program} {ops : Array Oper} {rest : List Oper} {o : Oper} {a : Act} {w : World} {Q : Exit → Act → World → Prop}
/-- a whole array, read inside a fence -/
theorem wpListIn_load_el (hgd : o.guard = none) (ty : TypeId) (x : Operand) (ho : o.op = .load ty x)
    (g : Nat) (hx : a.eval x = .pointer (some ⟨g, 0, none⟩)) (t : TypeId) (cs : Array Value) (fr : Nat × Nat) (d : TypeDesc) (hg : w.heap[g]? = some (.cells cs t fr))
    (hu : P.underlying ty = some d) (hd : (match d with | .struct _ | .array _ _ => true | _ => false) = true) (hi : (P.info? ty).map (·.size) = some cs.size)
    (h : wpListIn F n P ops Q rest (a.put o.dst (.agg cs)) w) : wpListIn F n P ops Q (o :: rest) a w := by
  refine wpListIn_plain hgd fun K hK => ?_
  unfold Oper.wpIn
  refine ⟨by simp [Oper.about, ho], ?_⟩
  rw [Oper.semAt_plain F _ _ (by rw [ho]; intro c hc'; cases hc')]
  simp [execOp, ho, hx, Instr.loadAt, Instr.sureAddr, Result.andThen, run_loadVar_row w g t ty cs fr d hg hu hd hi]
  exact hK _ _ h
/-- a row within a row, read inside a fence -/
theorem wpListIn_load_mid (hgd : o.guard = none) (ty : TypeId) (x : Operand) (ho : o.op = .load ty x)
    (b i : Nat) (hx : a.eval x = .pointer (some ⟨b, i, none⟩)) (cs : List Value) (d : TypeDesc) (hc : w.rangeAt b i cs)
    (hu : P.underlying ty = some d) (hd : d.isRow = true) (hi : (P.info? ty).map (·.size) = some cs.length)
    (h : wpListIn F n P ops Q rest (a.put o.dst (.agg cs.toArray)) w) : wpListIn F n P ops Q (o :: rest) a w := by
  refine wpListIn_plain hgd fun K hK => ?_
  unfold Oper.wpIn
  refine ⟨by simp [Oper.about, ho], ?_⟩
  rw [Oper.semAt_plain F _ _ (by rw [ho]; intro c hc'; cases hc')]
  simp [execOp, ho, hx, Instr.loadAt, Instr.sureAddr, Result.andThen, run_loadVar_mid w b i ty cs d hc hu hd hi]
  exact hK _ _ h
/-- a whole array, stored inside a fence -/
theorem wpListIn_store_el (hgd : o.guard = none) (ty : TypeId) (x y : Operand) (ho : o.op = .store ty x y)
    (g : Nat) (cells : Array Value) (hx : a.eval x = .pointer (some ⟨g, 0, none⟩)) (hy : a.eval y = .agg cells)
    (t : TypeId) (old : Array Value) (hg : w.heap[g]? = some (.cells old t (0, 0))) (hi : (P.info? ty).map (·.size) = some cells.size)
    (hold : old.size = cells.size) (h1 : cells.all (·.oneCell') = true)
    (h : wpListIn F n P ops Q rest (a.put o.dst undef) (w.setRow g cells)) : wpListIn F n P ops Q (o :: rest) a w := by
  refine wpListIn_plain hgd fun K hK => ?_
  unfold Oper.wpIn
  refine ⟨by simp [Oper.about, ho], ?_⟩
  rw [Oper.semAt_plain F _ _ (by rw [ho]; intro c hc'; cases hc')]
  simp [execOp, ho, hx, hy, Instr.storeAt, Instr.sureAddr, Result.andThen, run_storeVar_row w g t ty old cells hg hi hold h1]
  exact hK _ _ h
end
/-- a slice of one element, inside a fence -/
theorem wpListIn_build_el {F : Fence} {n : Nat} {ops : Array Oper} {rest : List Oper} {o : Oper} {a : Act} {w : World} {Q : Exit → Act → World → Prop} (hgd : o.guard = none) (x : Operand) (ho : o.op = .buildSlice 72 1 #[(0, x)]) (e : List Int) (he : e.length = 7) (hx : a.eval x = .agg (u8s e))
    (h : wpListIn F n Try.prog ops Q rest (a.put o.dst (.slice (some ⟨w.heap.size, 0, none⟩) 1 1)) (w.alloc (.cells (u8s e) 78))) : wpListIn F n Try.prog ops Q (o :: rest) a w := by
  obtain ⟨i0, hi, hz0, hz1, hz2⟩ := info_parts infoEl
  refine wpListIn_plain hgd fun K hK => ?_
  have hf : Instr.fill (fun i => some (i * i0.size, i0.size)) ((Array.range (1 * i0.size)).map ((Value.agg #[.int .u8 0, .int .u8 0, .int .u8 0, .int .u8 0, .int .u8 0, .int .u8 0, .int .u8 0]).cells[· % (Value.agg #[.int .u8 0, .int .u8 0, .int .u8 0, .int .u8 0, .int .u8 0, .int .u8 0, .int .u8 0]).cells.size]!)) (#[(0, x)].map fun (p : Nat × Operand) => (p.1, a.eval p.2)).toList = some (u8s e) := by
    rw [hz1]
    have : (#[(0, x)].map fun (p : Nat × Operand) => (p.1, a.eval p.2)).toList = [(0, .agg (u8s e))] := by simp [hx]
    rw [this]
    exact fill_one he
  have hr := run_buildSlice w 72 78 1 _ (u8s e) i0 _ Try.underlying72 hi hz0 (by rw [hz1]; decide) (by rw [hz1]; decide) hf
  unfold Oper.wpIn
  refine ⟨by simp [Oper.about, ho], ?_⟩
  rw [Oper.semAt_plain F _ _ (by rw [ho]; intro c hc'; cases hc')]
  unfold execOp
  simp only [ho, Sem.run_bind, hr, Result.andThen_ok]
  exact hK _ _ h

/-- the seven zeros of a new element -/
abbrev zeros7 : Array Value := #[.int .u8 0, .int .u8 0, .int .u8 0, .int .u8 0, .int .u8 0, .int .u8 0, .int .u8 0]
/-- what is handed to the k-th round -/
def elItem (L : List (List Int)) (k : Nat) (vs : Array Value) (_ : World) : Prop := vs = #[.agg (u8s (L.getD k []))]
/-- what a round must keep -/
def seqKeep (n : Nat) (A B : World) : Prop := A.heap.size ≤ B.heap.size ∧ ∀ b, b < n → B.heap[b]? = A.heap[b]?
theorem seqKeep.trans {n : Nat} {A B C : World} (h : seqKeep n A B) (k : seqKeep n B C) : seqKeep n A C := ⟨Nat.le_trans h.1 k.1, fun b hb => (k.2 b hb).trans (h.2 b hb)⟩
theorem seqKeep.putObj {n l : Nat} (W : World) (o : Obj) (h1 : n ≤ l) : seqKeep n W (W.putObj l o) :=
  ⟨by simp [World.putObj], fun b hb => World.putObj_heap_other (by omega)⟩

set_option maxRecDepth 100000 in
set_option maxHeartbeats 1000000 in
theorem values_seq (n bp g cap B : Nat) (L : List (List Int)) (W : World) (hbp : Blk W bp 72 #[.slice (some ⟨g, 0, none⟩) L.length cap]) (hn : n ≤ W.heap.size) (h2 : g < n)
    (hO : Oel B W (.slice (some ⟨g, 0, none⟩) L.length cap) L) (hE : ∀ x ∈ L, E7 x) (hl : L.length ≤ 900000) :
    IdxSeq Try.prog 97 #[.pointer (some ⟨bp, 0, none⟩)] L.length (elItem L) (fun _ => False) (seqKeep n) W := by
  intro l m J Jx hJ hY h0
  have hcp : W.cell? ⟨bp, 0, none⟩ = some (.slice (some ⟨g, 0, none⟩) L.length cap) := by simpa using hbp.cell 0
  have HY := Lib.hid hY
  have HJ := Lib.hid hJ
  have HO := Lib.hid hO
  have HE := Lib.hid hE
  clear hY hJ hO hE hbp
  refine callsIn_of_wp Try.func97 rfl trivial ?_ rfl
  simp only [Try.ntmps97, List.size_toArray, List.length_cons, List.length_nil, Nat.reduceAdd, Nat.reduceSub, Array.replicate_succ, Array.replicate_zero, List.push_toArray, List.append_toArray, List.nil_append, List.cons_append]
  gi_wp2
  gi_loopw [7] (fun i wr => ∃ k : Nat, k ≤ L.length ∧ i = .int .i64 k ∧ J k wr ∧ W.heap.size ≤ wr.heap.size ∧ (∀ b, b < n → wr.heap[b]? = W.heap[b]?)) (fun i _ => L.length - (intOf i).toNat)
  case atStart => exact ⟨0, Nat.zero_le _, rfl, h0, Nat.le_refl _, fun _ _ => rfl⟩
  case round =>
    obtain ⟨k, hk, rfl, hJk, hsz, hlow⟩ := hrel
    have HJk := Lib.hid hJk
    have HL := Lib.hid hlow
    by_cases hlt : k < L.length
    · obtain ⟨e, he⟩ : ∃ e, e = L.getD k [] := ⟨_, rfl⟩
      have hEe : E7 e := by rw [he]; exact HE.out _ (getD_mem hlt)
      have hr : wr.rangeAt g (k * 7) (e.map (Value.int .u8)) := fun j v hv => by
        rw [he] at hv
        exact (World.cell?_of_block (w := W) (HL.out g h2)).trans (HO.out.range (fun x hx => (HE.out x hx).1) k hlt j v hv)
      have HR := Lib.hid hr
      have hi7 : (Try.prog.info? 78).map (·.size) = some (e.map (Value.int .u8)).length := by rw [List.length_map, hEe.1]; exact infoElem
      have HQ0 := Lib.hid (Blk.new wr 78 zeros7)
      have HQ := Lib.hid (Blk.setRow HQ0.out (u8s e))
      have HBQ := Lib.hid (below_row ((Below.refl wr.heap.size wr).alloc (Nat.le_refl _) (.cells zeros7 78)) wr.heap.size (u8s e) (Nat.le_refl _))
      have hJ2 := HJ.out k _ _ HJk.out (Turns.of_below HBQ.out)
      obtain ⟨fn, tmps, assign, body, hy, hRR⟩ := HY.out k _ #[.agg (u8s e)] hlt hJ2 (by unfold elItem; rw [he])
      have HRR := Lib.hid hRR
      have HLt := Lib.hid hlt
      have hE7 : Hid (e.length = 7) := Lib.hid hEe.1
      clear hJk hlow hr hJ2 hRR he hEe
      gi_wp2_with (first | (refine wpListIn_load_mid rfl 78 _ rfl g (k * 7) rfl (e.map (Value.int .u8)) _ HR.out Try.underlying78 rfl hi7 ?_) | (refine wpListIn_store_el rfl 78 _ _ rfl wr.heap.size (u8s e) rfl rfl 78 zeros7 HQ0.out (infoElem' hE7.out) (by rw [size_u8s, hE7.out]; rfl) (u8s_one e) ?_) | (refine wpListIn_load_el rfl 78 _ rfl wr.heap.size rfl 78 (u8s e) (0, 0) _ HQ.out Try.underlying78 rfl (infoElem' hE7.out) ?_))
      refine HRR.out.mono ?_
      rintro e3 W3 (⟨rfl, hJ3, hk3⟩ | ⟨rfl, hJx3⟩)
      · have HJ3 := Lib.hid hJ3
        have HK3 := Lib.hid hk3
        clear hJ3 hk3
        gi_wp2
        go_roundw
        case rel =>
          have hb := HBQ.out
          refine ⟨k + 1, by omega, by go_num, by simpa using HJ3.out, ?_, fun b hb' => ?_⟩
          · have := HK3.out.1; have := hb.size; omega
          · exact ((HK3.out.2 b hb').trans (hb.block b (by omega))).trans (HL.out b hb')
        case measure => simp [intOf]; omega
      · have HJx := Lib.hid hJx3
        clear hJx3
        gi_wp2
        refine bodyPost_ret (results_none rfl _ _ _) rfl ?_
        exact ⟨⟨_, rfl⟩, .inr ⟨_, HLt.out, HJx.out⟩⟩
    · have hke : k = L.length := by omega
      have hlt' : L.length ≤ k := by omega
      rw [hke] at hJk
      have HJk2 := Lib.hid hJk
      clear hJk hke hlow HJk
      gi_wp2
      go_end0
      exact ⟨⟨_, rfl⟩, .inl HJk2.out⟩
end Go.Proofs.Ytdcilefiacohnaa
