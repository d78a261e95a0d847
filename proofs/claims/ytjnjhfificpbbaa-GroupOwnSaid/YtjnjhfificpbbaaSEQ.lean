/- A range over a function whose rounds make the variable anew in the assignment. | slices.Values' iterator at elements, and AppendSeq and Collect over it. | AppendSeq, Collect and SortedFunc over slices.Values' iterator at elements; sorted. -/
import Derived.Test.YtjnjhfificpbbaaRange
import Derived.RangeFuncNested
import Derived.RangeFuncBound
import Derived.RangeFuncCalls
import Derived.RangeFuncLeaves
import Derived.Test.YtjnjhfificpbbaaBase
import Derived.Test.YtjnjhfificpbbaaProg
import Derived.Test.YtjnjhfificpbbaaCLX
import Derived.Shelf.Abstract
import Derived.OwnWalkIn
import Derived.TacticsInMore
import Derived.LoopNIn
import Derived.LoopIn
import Derived.RegionIn
import Derived.Maps.OwnIn
import Derived.Deep.MidRow
import Derived.Great.BuildSlice
import Derived.Test.YtjnjhfificpbbaaSRT
namespace Go.Proofs.Ytjnjhfificpbbaa
open Go.RowKit
variable {P : Program}
set_option maxHeartbeats 400000 in
theorem wpIn_range_as {g : Operand} {ps : Array Tmp} {assign body : Code} {Q : Exit → Act → World → Prop} {a : Act} {w : World} {m : Nat}
    {gf : Nat} {lb : Array Value} (hg : a.eval g = .func (.func gf) #[] lb) (eg : ∀ args w, (callFunc gf args).run P w = .ok (.enter gf args) w)
    {N : Nat} {item : Nat → Array Value → World → Prop} {priv : Nat → Prop} {keep : World → World → Prop}
    (hseq : ∀ W, Below w.heap.size w W → W.heap.size = w.heap.size + 2 → IdxSeq P gf lb N item priv keep W)
    (hpr : ∀ b, priv b → w.heap.size + 2 ≤ b)
    (hKt : ∀ {A B C : World}, keep A B → keep B C → keep A C) (hKb : ∀ (W : World) (o : Obj), keep W (W.putObj (w.heap.size + 1) o))
    (hps : ∀ k vs W, item k vs W → vs.size = ps.size)
    (asx : Nat → Array Value → Act → World → Prop) (has : ∀ k vs a1 W (o : Obj), w.heap.size + 2 ≤ W.heap.size → asx k vs a1 W → asx k vs a1 (W.putObj (w.heap.size + 1) o))
    (I : Nat → World → Prop) (Ix : Code → Nat → World → Prop)
    (hI : ∀ k A B, I k A → Turns (fun b => b = w.heap.size + 1 ∨ priv b) A B → I k B) (hIx : ∀ c k A B, Ix c k A → Turns (fun b => b = w.heap.size + 1 ∨ priv b) A B → Ix c k B) (h0 : I 0 w)
    (hassign : ∀ (l k : Nat) (vs : Array Value) (W : World) (K : Act → World → Prop), k < N → w.heap.size + 2 ≤ W.heap.size → item k vs W → (∀ a1 W1, asx k vs a1 W1 → Turns (fun _ => False) W W1 → keep W W1 → K a1 W1) →
      assign.wpIn (Fence.wide.inRound l) m P (Exit.then K (fun _ _ _ => False)) { tmps := (ps.zip vs).foldl (fun t (p, v) => t.setIfInBounds p v) a.tmps, defers := [] } W)
    (hbody : ∀ (l k : Nat) (vs : Array Value) (a1 : Act) (W : World), k < N → I k W → asx k vs a1 W → w.heap.size + 2 ≤ W.heap.size → body.wpIn (Fence.wide.inRound l) m P (idxPost w.heap.size keep I Ix k W) a1 W)
    (hdone : ∀ (W : World), I N W → W.heap[w.heap.size]? = some (.deferred (some [])) → Q .normal { a with defers := { target := .collected w.heap.size, args := #[] } :: a.defers } W)
    (hstop : ∀ (c : Code) (k : Nat) (W : World), k < N → Ix c k W → W.heap[w.heap.size]? = some (.deferred (some [])) → c.wpIn Fence.wide (m + 2) P Q { a with defers := { target := .collected w.heap.size, args := #[] } :: a.defers } W) :
    (Code.rangeFunc g ps assign body).wpIn Fence.wide (m + 2) P Q a w := by
  refine wpIn_rangeFunc ?_
  intro fn hfn
  obtain ⟨s, hs0⟩ : ∃ s, w.heap.size = s := ⟨_, rfl⟩
  rw [hs0] at hseq hpr hI hIx hdone hstop
  simp only [hs0] at hKb has hbody hassign
  have hs : s = w.heap.size := hs0.symm
  let rc : LoopState → Option Code → Loop := fun st pe => { state := st, pending := pe, fn, tmps := a.tmps, params := ps, assign, body, defers := s }
  obtain ⟨W1, hW1⟩ : ∃ W1, (w.alloc (.deferred (some []))).alloc (.loop (rc .ready none)) = W1 := ⟨_, rfl⟩
  have hsz : W1.heap.size = s + 2 := by rw [← hW1, hs]; simp
  have hL1 : W1.heap[s + 1]? = some (.loop (rc .ready none)) := by
    rw [← hW1, hs]; have := World.alloc_heap_new (w.alloc (.deferred (some []))) (.loop (rc .ready none)); rwa [World.size_alloc] at this
  have hK1 : W1.heap[s]? = some (.deferred (some [])) := by
    rw [← hW1, hs]; exact (Below.heap_alloc _ _ _ (by simp)).trans (World.alloc_heap_new w _)
  have hb1 : Below s w W1 := by
    rw [← hW1, hs]; exact ((Below.refl _ w).alloc (Nat.le_refl _) _).alloc (by simp) _
  have hI1 : I 0 W1 := by
    refine hI 0 w W1 h0 ⟨hb1.os, hb1.tape, hb1.output, hb1.size, fun k hk _ => hb1.block k (by omega)⟩
  clear hs0
  refine ⟨s + 1, [{ target := .collected s, args := #[] }], W1, { target := .fn (.func gf) lb, args := #[.func (.yield (s + 1)) #[] #[]] }, W1, gf,
    #[.func (.yield (s + 1)) #[] #[]] ++ lb, W1, ?_, ?_, ?_, ?_, fun _ => by omega, ?_⟩
  · rw [← hW1]
    have := run_enterLoop_outer (P := P) (w := w) fn a.tmps ps assign body
    rw [← hs] at this
    exact this
  · simp only [resolve, hg]
    simp [go_sem]
  · intro f' _; trivial
  · simp [invoke, go_sem, eg]
  · have hmov : ∀ {A B : World} {o : Obj}, Turns priv A B → ∀ b, b < s + 2 → b < A.heap.size → A.heap[b]? = some o → B.heap[b]? = some o :=
      fun ht b hb hlt ho => (ht.block b hlt (fun hp => by have := hpr b hp; omega)).trans ho
    refine (hseq W1 hb1 hsz (s + 1) m
      (fun k W => I k W ∧ (s + 2 ≤ W.heap.size ∧ W.heap[s + 1]? = some (.loop (rc .ready none))) ∧ W.heap[s]? = some (.deferred (some [])))
      (fun k W => ∃ c, Ix c k W ∧ (s + 2 ≤ W.heap.size ∧ W.heap[s + 1]? = some (.loop (rc .done (some c)))) ∧ W.heap[s]? = some (.deferred (some [])))
      (fun k A B h ht => ⟨hI k A B h.1 (ht.mono fun _ h => .inr h), ⟨Nat.le_trans h.2.1.1 ht.size, hmov ht _ (by omega) (by have := h.2.1.1; omega) h.2.1.2⟩, hmov ht _ (by omega) (by have := h.2.1.1; omega) h.2.2⟩)
      ?_ ⟨hI1, ⟨by omega, hL1⟩, hK1⟩).mono ?_
    · rintro k W vs hk ⟨hi, ⟨hlt, hl⟩, hd⟩ hit
      have hy := run_yield (P := P) (args := vs) hl (hps k vs W hit)
      refine ⟨fn, _, assign, body, hy, roundIn_of_wpIn hfn (hassign _ k vs W _ hk hlt hit (fun a1 W1 ha1 ht1 hk1 => ⟨_, run_beginRound ((ht1.block (s + 1) (by omega) (fun h => h)).trans hl) rfl, ?_⟩))⟩
      have hlt1 : s + 2 ≤ W1.heap.size := Nat.le_trans hlt ht1.size
      have hd1 : W1.heap[s]? = some (.deferred (some [])) := (ht1.block s (by omega) (fun h => h)).trans hd
      have hi1 : I k W1 := hI _ _ _ hi (ht1.mono fun _ h => h.elim)
      obtain ⟨W2, hW2⟩ : ∃ W2, W2 = W1.putObj (s + 1) (.loop { rc .ready none with state := .busy }) := ⟨_, rfl⟩
      rw [← hW2]
      have ht2 : Turns (fun b => b = s + 1 ∨ priv b) W1 W2 := by rw [hW2]; exact Turns.putObj _ _ _ (.inl rfl)
      have hl2 : W2.heap[s + 1]? = some (.loop { rc .ready none with state := .busy }) := by rw [hW2]; exact World.putObj_heap_same (by omega)
      have hd2 : W2.heap[s]? = some (.deferred (some [])) := by rw [hW2]; exact (World.putObj_heap_other (by omega)).trans hd1
      have hk2 : keep W W2 := hKt hk1 (by rw [hW2]; exact hKb _ _)
      have hit2 : asx k vs a1 W2 := by rw [hW2]; exact has _ _ _ _ _ hlt1 ha1
      have hs2 : s + 2 ≤ W2.heap.size := by have := ht2.size; omega
      refine wpIn_mono (hbody _ k vs a1 W2 hk (hI _ _ _ hi1 ht2) hit2 hs2) ?_
      have fin : ∀ (jump : Option Code) (W3 : World), W3.heap[s]? = W2.heap[s]? ∧ W3.heap[s + 1]? = W2.heap[s + 1]? →
          ∃ W4, (Instr.endRound (s + 1) jump).run P W3 = .ok (.bool jump.isNone) W4 ∧ W4 = W3.putObj (s + 1) (.loop (rc (if jump.isNone then .ready else .done) jump)) ∧ Turns (fun b => b = s + 1 ∨ priv b) W3 W4 ∧
          (s + 2 ≤ W4.heap.size ∧ W4.heap[s + 1]? = some (.loop (rc (if jump.isNone then .ready else .done) jump))) ∧ W4.heap[s]? = some (.deferred (some [])) := fun jump W3 hk3 => by
        have hl3 := hk3.2.trans hl2
        have hlt3 : s + 1 < W3.heap.size := (Array.getElem?_eq_some_iff.1 hl3).1
        refine ⟨_, run_endRound (P := P) jump hl3, rfl, Turns.putObj _ _ _ (.inl rfl), ⟨?_, World.putObj_heap_same hlt3⟩, (World.putObj_heap_other (by omega)).trans (hk3.1.trans hd2)⟩
        simp [World.putObj]; omega
      rintro e a3 W3 hp
      cases e with
      | normal =>
        obtain ⟨hk3, hkp3, hi3⟩ := hp
        obtain ⟨W4, hr, hW4, ht4, hl4, hd4⟩ := fin none W3 hk3
        refine ⟨_, W4, hr, .inl ⟨rfl, ⟨hI _ _ _ hi3 ht4, hl4, hd4⟩, hKt (hKt hk2 hkp3) ?_⟩⟩
        rw [hW4]; exact hKb _ _
      | ret =>
        obtain ⟨hk3, hi3⟩ := hp
        obtain ⟨W4, hr, _, ht4, hl4, hd4⟩ := fin (some .ret) W3 hk3
        exact ⟨_, W4, hr, .inr ⟨rfl, .ret, hIx _ _ _ _ hi3 ht4, hl4, hd4⟩⟩
      | exit id =>
        obtain ⟨hk3, hi3⟩ := hp
        obtain ⟨W4, hr, _, ht4, hl4, hd4⟩ := fin (some (.exit id)) W3 hk3
        exact ⟨_, W4, hr, .inr ⟨rfl, .exit id, hIx _ _ _ _ hi3 ht4, hl4, hd4⟩⟩
      | goto t => exact hp.elim
      | panic ch => exact hp.elim
      | outgrown => exact hp.elim
    · rintro e W2 ⟨⟨v, rfl⟩, (⟨hi, hl, hd⟩ | ⟨k, hk, c, hi, hl, hd⟩)⟩
      · exact ⟨none, _, run_endLoop (P := P) hl.2 (by simp [rc]), hdone _ (hI _ _ _ hi (Turns.putObj _ _ _ (.inl rfl))) ((World.putObj_heap_other (by omega)).trans hd)⟩
      · exact ⟨some c, _, run_endLoop (P := P) hl.2 (by simp [rc]), hstop c k _ hk (hIx _ _ _ _ hi (Turns.putObj _ _ _ (.inl rfl))) ((World.putObj_heap_other (by omega)).trans hd)⟩

end Go.Proofs.Ytjnjhfificpbbaa
namespace Go.Proofs.Ytjnjhfificpbbaa
open Go Go.RowKit Go.Shelf
attribute [local go_sem] Oper.semAt_some

section
variable {F : Fence} {n : Nat} {P : Program} {ops : Array Oper} {rest : List Oper} {o : Oper} {a : Act} {w : World} {Q : Exit → Act → World → Prop}
/-- a whole array, read inside a fence -/
theorem wpListIn_load_el (hgd : o.guard = none) (ty : TypeId) (x : Operand) (ho : o.op = .load ty x)
    (g : Nat) (hx : a.eval x = .pointer (some ⟨g, 0, none⟩)) (t : TypeId) (cs : Array Value) (fr : Nat × Nat) (d : TypeDesc) (hg : w.heap[g]? = some (.cells cs t fr))
    (hu : P.underlying ty = some d) (hd : (match d with | .struct _ | .array _ _ => true | _ => false) = true) (hi : (P.info? ty).map (·.size) = some cs.size)
    (h : wpListIn F n P ops Q rest (a.put o.dst (.agg cs)) w) : wpListIn F n P ops Q (o :: rest) a w := by
  refine wpListIn_plain hgd fun K hK => ?_
  unfold Oper.wpIn
  refine ⟨by simp [Oper.about, ho], ?_⟩
  rw [Oper.semAt_plain F _ _ (by rw [ho]; intro c hc'; cases hc')]
  simp [execOp, ho, hx, Instr.loadAt, Instr.sureAddr, Result.andThen, run_loadVar_row w g t ty cs fr d hg hu hd hi]
  exact hK _ _ h
/-- a row within a row, read inside a fence -/
theorem wpListIn_load_mid (hgd : o.guard = none) (ty : TypeId) (x : Operand) (ho : o.op = .load ty x)
    (b i : Nat) (hx : a.eval x = .pointer (some ⟨b, i, none⟩)) (cs : List Value) (d : TypeDesc) (hc : w.rangeAt b i cs)
    (hu : P.underlying ty = some d) (hd : d.isRow = true) (hi : (P.info? ty).map (·.size) = some cs.length)
    (h : wpListIn F n P ops Q rest (a.put o.dst (.agg cs.toArray)) w) : wpListIn F n P ops Q (o :: rest) a w := by
  refine wpListIn_plain hgd fun K hK => ?_
  unfold Oper.wpIn
  refine ⟨by simp [Oper.about, ho], ?_⟩
  rw [Oper.semAt_plain F _ _ (by rw [ho]; intro c hc'; cases hc')]
  simp [execOp, ho, hx, Instr.loadAt, Instr.sureAddr, Result.andThen, run_loadVar_mid w b i ty cs d hc hu hd hi]
  exact hK _ _ h
/-- a whole array, stored inside a fence -/
theorem wpListIn_store_el (hgd : o.guard = none) (ty : TypeId) (x y : Operand) (ho : o.op = .store ty x y)
    (g : Nat) (cells : Array Value) (hx : a.eval x = .pointer (some ⟨g, 0, none⟩)) (hy : a.eval y = .agg cells)
    (t : TypeId) (old : Array Value) (hg : w.heap[g]? = some (.cells old t (0, 0))) (hi : (P.info? ty).map (·.size) = some cells.size)
    (hold : old.size = cells.size) (h1 : cells.all (·.oneCell') = true)
    (h : wpListIn F n P ops Q rest (a.put o.dst undef) (w.setRow g cells)) : wpListIn F n P ops Q (o :: rest) a w := by
  refine wpListIn_plain hgd fun K hK => ?_
  unfold Oper.wpIn
  refine ⟨by simp [Oper.about, ho], ?_⟩
  rw [Oper.semAt_plain F _ _ (by rw [ho]; intro c hc'; cases hc')]
  simp [execOp, ho, hx, hy, Instr.storeAt, Instr.sureAddr, Result.andThen, run_storeVar_row w g t ty old cells hg hi hold h1]
  exact hK _ _ h
end
/-- a slice of one element, inside a fence -/
theorem wpListIn_build_el {F : Fence} {n : Nat} {ops : Array Oper} {rest : List Oper} {o : Oper} {a : Act} {w : World} {Q : Exit → Act → World → Prop} (hgd : o.guard = none) (x : Operand) (ho : o.op = .buildSlice 72 1 #[(0, x)]) (e : List Int) (he : e.length = 7) (hx : a.eval x = .agg (u8s e))
    (h : wpListIn F n Try.prog ops Q rest (a.put o.dst (.slice (some ⟨w.heap.size, 0, none⟩) 1 1)) (w.alloc (.cells (u8s e) 78))) : wpListIn F n Try.prog ops Q (o :: rest) a w := by
  obtain ⟨i0, hi, hz0, hz1, hz2⟩ := info_parts infoEl
  refine wpListIn_plain hgd fun K hK => ?_
  have hf : Instr.fill (fun i => some (i * i0.size, i0.size)) ((Array.range (1 * i0.size)).map ((Value.agg #[.int .u8 0, .int .u8 0, .int .u8 0, .int .u8 0, .int .u8 0, .int .u8 0, .int .u8 0]).cells[· % (Value.agg #[.int .u8 0, .int .u8 0, .int .u8 0, .int .u8 0, .int .u8 0, .int .u8 0, .int .u8 0]).cells.size]!)) (#[(0, x)].map fun (p : Nat × Operand) => (p.1, a.eval p.2)).toList = some (u8s e) := by
    rw [hz1]
    have : (#[(0, x)].map fun (p : Nat × Operand) => (p.1, a.eval p.2)).toList = [(0, .agg (u8s e))] := by simp [hx]
    rw [this]
    exact fill_one he
  have hr := run_buildSlice w 72 78 1 _ (u8s e) i0 _ Try.underlying72 hi hz0 (by rw [hz1]; decide) (by rw [hz1]; decide) hf
  unfold Oper.wpIn
  refine ⟨by simp [Oper.about, ho], ?_⟩
  rw [Oper.semAt_plain F _ _ (by rw [ho]; intro c hc'; cases hc')]
  unfold execOp
  simp only [ho, Sem.run_bind, hr, Result.andThen_ok]
  exact hK _ _ h

/-- the seven zeros of a new element -/
abbrev zeros7 : Array Value := #[.int .u8 0, .int .u8 0, .int .u8 0, .int .u8 0, .int .u8 0, .int .u8 0, .int .u8 0]
/-- what is handed to the k-th round -/
def elItem (L : List (List Int)) (k : Nat) (vs : Array Value) (_ : World) : Prop := vs = #[.agg (u8s (L.getD k []))]
/-- what a round must keep -/
def seqKeep (n : Nat) (A B : World) : Prop := A.heap.size ≤ B.heap.size ∧ ∀ b, b < n → B.heap[b]? = A.heap[b]?
theorem seqKeep.trans {n : Nat} {A B C : World} (h : seqKeep n A B) (k : seqKeep n B C) : seqKeep n A C := ⟨Nat.le_trans h.1 k.1, fun b hb => (k.2 b hb).trans (h.2 b hb)⟩
theorem seqKeep.putObj {n l : Nat} (W : World) (o : Obj) (h1 : n ≤ l) : seqKeep n W (W.putObj l o) :=
  ⟨by simp [World.putObj], fun b hb => World.putObj_heap_other (by omega)⟩

set_option maxRecDepth 100000 in
set_option maxHeartbeats 1000000 in
theorem values_seq (n bp g cap B : Nat) (L : List (List Int)) (W : World) (hbp : Blk W bp 72 #[.slice (some ⟨g, 0, none⟩) L.length cap]) (hn : n ≤ W.heap.size) (h2 : g < n)
    (hO : Oel B W (.slice (some ⟨g, 0, none⟩) L.length cap) L) (hE : ∀ x ∈ L, E7 x) (hl : L.length ≤ 900000) :
    IdxSeq Try.prog 97 #[.pointer (some ⟨bp, 0, none⟩)] L.length (elItem L) (fun _ => False) (seqKeep n) W := by
  intro l m J Jx hJ hY h0
  have hcp : W.cell? ⟨bp, 0, none⟩ = some (.slice (some ⟨g, 0, none⟩) L.length cap) := by simpa using hbp.cell 0
  have HY := Lib.hid hY
  have HJ := Lib.hid hJ
  have HO := Lib.hid hO
  have HE := Lib.hid hE
  clear hY hJ hO hE hbp
  refine callsIn_of_wp Try.func97 rfl trivial ?_ rfl
  simp only [Try.ntmps97, List.size_toArray, List.length_cons, List.length_nil, Nat.reduceAdd, Nat.reduceSub, Array.replicate_succ, Array.replicate_zero, List.push_toArray, List.append_toArray, List.nil_append, List.cons_append]
  gi_wp2
  gi_loopw [7] (fun i wr => ∃ k : Nat, k ≤ L.length ∧ i = .int .i64 k ∧ J k wr ∧ W.heap.size ≤ wr.heap.size ∧ (∀ b, b < n → wr.heap[b]? = W.heap[b]?)) (fun i _ => L.length - (intOf i).toNat)
  case atStart => exact ⟨0, Nat.zero_le _, rfl, h0, Nat.le_refl _, fun _ _ => rfl⟩
  case round =>
    obtain ⟨k, hk, rfl, hJk, hsz, hlow⟩ := hrel
    have HJk := Lib.hid hJk
    have HL := Lib.hid hlow
    by_cases hlt : k < L.length
    · obtain ⟨e, he⟩ : ∃ e, e = L.getD k [] := ⟨_, rfl⟩
      have hEe : E7 e := by rw [he]; exact HE.out _ (getD_mem hlt)
      have hr : wr.rangeAt g (k * 7) (e.map (Value.int .u8)) := fun j v hv => by
        rw [he] at hv
        exact (World.cell?_of_block (w := W) (HL.out g h2)).trans (HO.out.range (fun x hx => (HE.out x hx).1) k hlt j v hv)
      have HR := Lib.hid hr
      have hi7 : (Try.prog.info? 78).map (·.size) = some (e.map (Value.int .u8)).length := by rw [List.length_map, hEe.1]; exact infoElem
      have HQ0 := Lib.hid (Blk.new wr 78 zeros7)
      have HQ := Lib.hid (Blk.setRow HQ0.out (u8s e))
      have HBQ := Lib.hid (below_row ((Below.refl wr.heap.size wr).alloc (Nat.le_refl _) (.cells zeros7 78)) wr.heap.size (u8s e) (Nat.le_refl _))
      have hJ2 := HJ.out k _ _ HJk.out (Turns.of_below HBQ.out)
      obtain ⟨fn, tmps, assign, body, hy, hRR⟩ := HY.out k _ #[.agg (u8s e)] hlt hJ2 (by unfold elItem; rw [he])
      have HRR := Lib.hid hRR
      have HLt := Lib.hid hlt
      have hE7 : Hid (e.length = 7) := Lib.hid hEe.1
      clear hJk hlow hr hJ2 hRR he hEe
      gi_wp2_with (first | (refine wpListIn_load_mid rfl 78 _ rfl g (k * 7) rfl (e.map (Value.int .u8)) _ HR.out Try.underlying78 rfl hi7 ?_) | (refine wpListIn_store_el rfl 78 _ _ rfl wr.heap.size (u8s e) rfl rfl 78 zeros7 HQ0.out (infoElem' hE7.out) (by rw [size_u8s, hE7.out]; rfl) (u8s_one e) ?_) | (refine wpListIn_load_el rfl 78 _ rfl wr.heap.size rfl 78 (u8s e) (0, 0) _ HQ.out Try.underlying78 rfl (infoElem' hE7.out) ?_))
      refine HRR.out.mono ?_
      rintro e3 W3 (⟨rfl, hJ3, hk3⟩ | ⟨rfl, hJx3⟩)
      · have HJ3 := Lib.hid hJ3
        have HK3 := Lib.hid hk3
        clear hJ3 hk3
        gi_wp2
        go_roundw
        case rel =>
          have hb := HBQ.out
          refine ⟨k + 1, by omega, by go_num, by simpa using HJ3.out, ?_, fun b hb' => ?_⟩
          · have := HK3.out.1; have := hb.size; omega
          · exact ((HK3.out.2 b hb').trans (hb.block b (by omega))).trans (HL.out b hb')
        case measure => simp [intOf]; omega
      · have HJx := Lib.hid hJx3
        clear hJx3
        gi_wp2
        refine bodyPost_ret (results_none rfl _ _ _) rfl ?_
        exact ⟨⟨_, rfl⟩, .inr ⟨_, HLt.out, HJx.out⟩⟩
    · have hke : k = L.length := by omega
      have hlt' : L.length ≤ k := by omega
      rw [hke] at hJk
      have HJk2 := Lib.hid hJk
      clear hJk hke hlow HJk
      gi_wp2
      go_end0
      exact ⟨⟨_, rfl⟩, .inl HJk2.out⟩
end Go.Proofs.Ytjnjhfificpbbaa
namespace Go.Proofs.Ytjnjhfificpbbaa
open Go Go.RowKit Go.Shelf
attribute [local go_sem] Oper.semAt_some

theorem after_append {W w3 : World} {bL B : Nat} {r : Value} {tmp : Obj} (hB : Blk W bL 72 #[r]) (hne : ∀ g, r.ownBlock = some g → B ≤ g) (hg : (W.alloc tmp).grownBy w3 r.ownBlock) (hlt : bL < B) :
    w3.cell? ⟨bL, 0, none⟩ = some r ∧ w3.frozen? ⟨bL, 0, none⟩ = false ∧ Blk w3 bL 72 #[r] ∧ Turns (fun b => B ≤ b) W w3 ∧ W.heap.size ≤ w3.heap.size := by
  have hb3 : Blk w3 bL 72 #[r] := (hg.block bL (by have := hB.lt; simp; omega) (fun h => by have := hne bL h.symm; omega)).trans (hB.alloc tmp)
  have hz := hg.size
  simp at hz
  refine ⟨by simpa using hb3.cell 0, hb3.free 0, hb3, ?_, by omega⟩
  refine (Turns.alloc W tmp).trans ⟨hg.os, hg.tape, hg.output, hg.size, fun k hk hp => hg.block k hk (fun h => hp (hne k h.symm))⟩
theorem Oel.mono {B B' : Nat} {w : World} {v : Value} {L : List (List Int)} (h : Oel B w v L) (hB : B' ≤ B) : Oel B' w v L := by
  refine ⟨h.1, ?_⟩
  rcases h.2 with h | ⟨g, cap, cur, h1, h2, h3⟩
  · exact .inl h
  · exact .inr ⟨g, cap, cur, h1, Nat.le_trans hB h2, h3⟩
theorem row_succ {B size n : Nat} {e : TypeId} {w : World} {v : Value} {xs : List Value} (h : w.ownsRow B e size v (n + 1) xs) : ∃ g cap, v = .slice (some ⟨g, 0, none⟩) (n + 1) cap := by
  rcases h.2 with ⟨_, h0⟩ | ⟨g, cap, _, h0, _⟩
  · omega
  · exact ⟨g, cap, h0⟩
theorem take_snoc {L : List (List Int)} {k : Nat} (h : k < L.length) : L.take (k + 1) = L.take k ++ [L.getD k []] := by
  rw [List.take_succ_eq_append_getElem h]; simp [h]

set_option maxRecDepth 100000 in
set_option maxHeartbeats 2000000 in
theorem appendSeq_any (bp g cap B : Nat) (L : List (List Int)) (w : World) (hbp : Blk w bp 72 #[.slice (some ⟨g, 0, none⟩) L.length cap])
    (hO : Oel B w (.slice (some ⟨g, 0, none⟩) L.length cap) L) (hE : ∀ x ∈ L, E7 x) (hl : L.length ≤ 900000) :
    Calls Try.prog 101 #[.slice none 0 0, .func (.func 97) #[] #[.pointer (some ⟨bp, 0, none⟩)]] w fun e w' => ∃ v, e = .returned v ∧ Oel w.heap.size w' v L ∧ Below w.heap.size w w' := by
  obtain ⟨i0, hi, hz0, hz1, hz2⟩ := info_parts infoEl
  have hg : g < w.heap.size := (World.ownsRow.lt hO g rfl).2
  have HE := Lib.hid hE
  have HO := Lib.hid hO
  have HP := Lib.hid hbp
  clear hE hO hbp
  refine (callsIn_wide (n := 3)).1 ?_
  refine callsIn_of_wp_marks Try.func101 rfl trivial ?_ rfl
  simp only [Try.ntmps101, List.size_toArray, List.length_cons, List.length_nil, Nat.reduceAdd, Nat.reduceSub, Array.replicate_succ, Array.replicate_zero, List.push_toArray, List.append_toArray, List.nil_append, List.cons_append]
  gi_wp2
  obtain ⟨W2, hW2⟩ : ∃ W2, W2 = w.alloc (.cells #[.slice none 0 0] 72) := ⟨_, rfl⟩
  have hsz : W2.heap.size = w.heap.size + 1 := by rw [hW2]; simp
  have hB1 : Blk W2 w.heap.size 72 #[.slice none 0 0] := by rw [hW2]; exact Blk.new _ _ _
  have hb2 : Below w.heap.size w W2 := by rw [hW2]; exact (Below.refl _ w).alloc (Nat.le_refl _) _
  rw [← hW2]
  clear hW2
  obtain ⟨s, hs⟩ : ∃ s, s = w.heap.size := ⟨_, rfl⟩
  have hs' := hs.symm
  rw [← hs] at hsz hB1 hb2 hg ⊢
  have HS := Lib.hid hs
  clear hs hs'
  refine wpIn_range_as (m := 1) (gf := 97) (lb := #[.pointer (some ⟨bp, 0, none⟩)]) rfl (enters_of Try.func97 (by kernel_rfl) rfl)
    (N := L.length) (item := elItem L) (priv := fun _ => False) (keep := seqKeep s)
    (fun W hbW hsW => by
      have hbW' : Below w.heap.size w W := (HS.out ▸ hb2).trans (hbW.mono (by have := HS.out; omega))
      exact values_seq s bp g cap B L W (HP.out.below hbW') (by omega) hg (HO.out.turns (Turns.of_below (priv := fun _ => False) hbW') (fun _ _ h => h)) HE.out hl)
    (fun b hb => hb.elim) (fun h k => h.trans k) (fun W o => seqKeep.putObj W o (by omega))
    (fun k vs W hi => by unfold elItem at hi; rw [hi]; rfl)
    (fun k _ a1 W => ∃ q, a1 = { tmps := #[.slice none 0 0, .func (.func 97) #[] #[.pointer (some ⟨bp, 0, none⟩)], .pointer (some ⟨s, 0, none⟩), undef, .slice none 0 0, .pointer (some ⟨q, 0, none⟩), .func (.func 97) #[] #[.pointer (some ⟨bp, 0, none⟩)], .agg (u8s (L.getD k [])), undef, undef, undef, undef, undef], defers := [] } ∧ Blk W q 78 (u8s (L.getD k [])) ∧ s + 3 ≤ q)
    (fun k vs a1 W o hlt h => by
      obtain ⟨q, h1, h2, h3⟩ := h
      exact ⟨q, h1, h2.turns (Turns.putObj (priv := fun b => b = W2.heap.size + 1) W _ o rfl) (by omega), h3⟩)
    (fun k W => (∃ r, Blk W s 72 #[r] ∧ Oel (s + 3) W r (L.take k)) ∧ Below s w W)
    (fun _ _ _ => False)
    (fun k A B hI ht => by
      obtain ⟨⟨r, h1, h2⟩, h3⟩ := hI
      exact ⟨⟨r, h1.turns ht (by simp; omega), h2.turns ht (fun b hb hq => by have := (World.ownsRow.lt h2 b hb).1; simp at hq; omega)⟩, below_turns h3 ht (fun b hb => by simp; omega) (by have := HS.out; omega)⟩)
    (fun _ _ _ _ h _ => h)
    ⟨⟨_, hB1, World.ownsRow_nil _ _ _ _⟩, hb2⟩ ?assign ?body ?done ?stop
  case assign =>
    rintro l k vs W K hk hs2 hit hK
    unfold elItem at hit
    subst hit
    have hEe : E7 (L.getD k []) := HE.out _ (getD_mem hk)
    obtain ⟨e, he⟩ : ∃ e, e = L.getD k [] := ⟨_, rfl⟩
    rw [← he] at hEe hK ⊢
    have HQ0 := Lib.hid (Blk.new W 78 zeros7)
    have HQ := Lib.hid (Blk.setRow HQ0.out (u8s e))
    have HBQ := Lib.hid (below_row ((Below.refl W.heap.size W).alloc (Nat.le_refl _) (.cells zeros7 78)) W.heap.size (u8s e) (Nat.le_refl _))
    have HK := Lib.hid hK
    have hE7 : Hid (e.length = 7) := Lib.hid hEe.1
    clear hK he hEe
    gi_wp2_with (refine wpListIn_store_el rfl 78 _ _ rfl W.heap.size (u8s e) rfl rfl 78 zeros7 HQ0.out (infoElem' hE7.out) (by rw [size_u8s, hE7.out]; rfl) (u8s_one e) ?_)
    exact HK.out _ _ ⟨W.heap.size, rfl, HQ.out, by omega⟩ (Turns.of_below HBQ.out) ⟨HBQ.out.size, fun b hb => HBQ.out.block b (by omega)⟩
  case body =>
    rintro l k vs a1 W hk ⟨⟨r, hB, hOs⟩, hbW⟩ ⟨q, rfl, hq, hq3⟩ hs2
    have hEe : E7 (L.getD k []) := HE.out _ (getD_mem hk)
    have hts := take_snoc hk
    obtain ⟨e, he⟩ : ∃ e, e = L.getD k [] := ⟨_, rfl⟩
    rw [← he] at hEe hq hts ⊢
    have hc : W.cell? ⟨s, 0, none⟩ = some r := by simpa using hB.cell 0
    have hf := hB.free 0
    have HB := Lib.hid hB
    have HQ := Lib.hid hq
    have HOs := Lib.hid hOs
    have HBW := Lib.hid hbW
    have HTS := Lib.hid hts
    have hE7 : Hid (e.length = 7) := Lib.hid hEe.1
    have HTL := Lib.hid (show (L.take k).length ≤ 900000 by rw [List.length_take]; omega)
    have HBne := Lib.hid (show ∀ g, r.ownBlock = some g → s + 3 ≤ g from fun g h => (World.ownsRow.lt hOs g h).1)
    have HNew := Lib.hid (Blk.new W 78 (u8s e))
    have HNews := Lib.hid (show ∀ j u, (e.map (Value.int .u8))[j]? = some u → (W.alloc (.cells (u8s e) 78)).cell? ((⟨W.heap.size, 0, none⟩ : Addr).add j) = some u from fun j u hu => by
      have e1 : (⟨W.heap.size, 0, none⟩ : Addr).add j = ⟨W.heap.size, j, none⟩ := by unfold Addr.add; split <;> simp_all
      rw [e1, HNew.out.cell j]; simpa [u8s] using hu)
    have HOnes := Lib.hid (show ∀ u ∈ e.map (Value.int .u8), u.oneCell' = true from fun u hu => by obtain ⟨y, _, rfl⟩ := List.mem_map.1 hu; rfl)
    clear hB hq hOs hbW hts he hEe
    gi_wp2_with (first
      | (refine wpListIn_load_el rfl 78 _ rfl q rfl 78 (u8s e) (0, 0) _ HQ.out Try.underlying78 rfl (infoElem' hE7.out) ?_)
      | (refine wpListIn_build_el rfl _ rfl e hE7.out rfl ?_)
      | (gi_at_builtin; refine wpListIn_append_own_at _ rfl _ _ 72 rfl (s + 3) 78 i0 (.agg zeros7) 7 7 Try.underlying72 hi hz0 hz1 hz2 rfl (by decide) _ _ _ rfl (World.ownsRow.alloc HOs.out _) ⟨W.heap.size, 0, none⟩ 1 1 (e.map (Value.int .u8)) rfl (by rw [List.length_map, hE7.out]) HNews.out HOnes.out (by have := HTL.out; unfold maxLen; omega) (by have := HTL.out; omega) (by simp; omega) ?_; intro v' w3 hown' hgrow _ _; obtain ⟨g', cap', rfl⟩ := row_succ hown'; have hfacts := after_append HB.out HBne.out hgrow (by omega); have hc3 := hfacts.1; have hf3 := hfacts.2.1; have HOwn := Lib.hid hown'; have HGrow := Lib.hid hgrow; have HFacts := Lib.hid hfacts; clear hown' hgrow hfacts))
    obtain ⟨_, _, hb3, ht3, hz3⟩ := HFacts.out
    have hsame : ∀ b, b < s + 3 → b ≠ s → b < W.heap.size → ∀ u, (w3.setCell ⟨s, 0, none⟩ u).heap[b]? = W.heap[b]? := fun b h1 h2 h3 u => (Below.heap_setCell _ _ _ _ h2).trans (ht3.block b h3 (by omega))
    have hO3 : Oel (s + 3) w3 (.slice (some ⟨g', 0, none⟩) ((L.take k).length + 1) cap') (L.take (k + 1)) := by
      unfold Oel
      rw [HTS.out, rowsV_snoc]
      simpa using HOwn.out
    refine ⟨⟨hsame _ (by omega) (by omega) (by omega) _, hsame _ (by omega) (by omega) (by omega) _⟩, ⟨by simp; omega, fun b hb => hsame b (by omega) (by omega) (by omega) _⟩, ⟨_, hb3.set 0 _, ?_⟩, ?_⟩
    · rw [List.length_take] at hO3
      exact hO3.turns (priv := fun b => b = s) ((Turns.refl _ _).setCell _ _ _ rfl) (fun b hb hq => by have := (World.ownsRow.lt hO3 b hb).1; omega)
    · exact (below_turns HBW.out ht3 (fun b hb => by omega) (by have := HS.out; omega)).setCell (Nat.le_refl _) _
  case done =>
    rintro W ⟨⟨r, hB, hOs⟩, hbW⟩ hD
    have hc : W.cell? ⟨s, 0, none⟩ = some r := by simpa using hB.cell 0
    have hDl : W2.heap.size < W.heap.size := (Array.getElem?_eq_some_iff.1 hD).1
    have HB := Lib.hid hB
    rw [List.take_of_length_le (Nat.le_refl _)] at hOs
    have HOs := Lib.hid hOs
    have HSZ := Lib.hid hsz
    clear hB hOs hsz
    gi_wp2
    refine ⟨by simp, .inl ⟨_, _, rfl, run_takeDeferred hD, ?_⟩⟩
    have hO5 : Oel (s + 3) (W.putObj W2.heap.size (.deferred none)) r L := HOs.out.turns (Turns.putObj (priv := fun b => b = W2.heap.size) _ _ _ rfl) (fun b hb hq => by have := (World.ownsRow.lt HOs.out b hb).1; have := HSZ.out; omega)
    rw [← HS.out]
    exact ⟨_, results_tmp rfl _ _ _, r, rfl, hO5.mono (by omega), below_turns hbW (Turns.putObj (priv := fun b => b = W2.heap.size) _ _ _ rfl) (fun b hb => by have := HSZ.out; omega) (by have := HS.out; omega)⟩
  case stop =>
    rintro c k W hk h _
    exact h.elim
theorem collect_any (bp g cap B : Nat) (L : List (List Int)) (w : World) (hbp : Blk w bp 72 #[.slice (some ⟨g, 0, none⟩) L.length cap])
    (hO : Oel B w (.slice (some ⟨g, 0, none⟩) L.length cap) L) (hE : ∀ x ∈ L, E7 x) (hl : L.length ≤ 900000) :
    Calls Try.prog 95 #[.func (.func 97) #[] #[.pointer (some ⟨bp, 0, none⟩)]] w fun e w' => ∃ v, e = .returned v ∧ Oel w.heap.size w' v L ∧ Below w.heap.size w w' := by
  have H := Lib.hid (appendSeq_any bp g cap B L w hbp hO hE hl)
  clear hbp hO hE
  go_enter Try.func95, Try.ntmps95
  go_wp2_with fail
  refine H.out.mono ?_
  rintro e w1 ⟨v, rfl, hO1, hb1⟩
  have HO1 := Lib.hid hO1
  clear hO1
  go_wp2_with fail
  go_ret
  exact ⟨_, rfl, HO1.out, hb1⟩
theorem values_any (a : Option Addr) (n c : Nat) (w : World) :
    Calls Try.prog 85 #[.slice a n c] w fun e w' => e = .returned (.func (.func 97) #[] #[.pointer (some ⟨w.heap.size, 0, none⟩)]) ∧ w' = w.alloc (.cells #[.slice a n c] 72) := by
  go_enter Try.func85, Try.ntmps85
  go_wp2
  go_ret
  exact ⟨rfl, rfl⟩
set_option maxHeartbeats 1000000 in
theorem sortedFunc_any (bp g cap B : Nat) (L : List (List Int)) (w : World) (hbp : Blk w bp 72 #[.slice (some ⟨g, 0, none⟩) L.length cap])
    (hO : Oel B w (.slice (some ⟨g, 0, none⟩) L.length cap) L) (hE : ∀ x ∈ L, El x) (h0 : 0 < L.length) (hl : L.length ≤ 900000) :
    Calls Try.prog 84 #[.func (.func 97) #[] #[.pointer (some ⟨bp, 0, none⟩)], .func (.func 86) #[] #[]] w fun e w' => ∃ v L', e = .returned v ∧ L'.Perm L ∧ Asc L' ∧ Oel w.heap.size w' v L' ∧ Below w.heap.size w w' := by
  have H := Lib.hid (collect_any bp g cap B L w hbp hO (fun x hx => (hE x hx).e7) hl)
  have HE := Lib.hid hE
  have H0 := Lib.hid h0
  have HL := Lib.hid hl
  clear hbp hO hE h0 hl
  go_enter Try.func84, Try.ntmps84
  go_wp2_with fail
  refine H.out.mono ?_
  rintro e w1 ⟨v, rfl, hO1, hb1⟩
  have HO1 := Lib.hid hO1
  have HB1 := Lib.hid hb1
  obtain ⟨g1, cap1, rfl⟩ := hO1.form H0.out
  clear hO1 hb1
  go_wp2_with fail
  refine (sort_el HO1.out HE.out H0.out HL.out).mono ?_
  rintro e w2 ⟨rfl, L', hp, ha, hO2, hg2⟩
  have HO2 := Lib.hid hO2
  have HP2 := Lib.hid hp
  have HA2 := Lib.hid ha
  have HB2 := Lib.hid (HB1.out.grown hg2 HB1.out.size (fun k e => (World.ownsRow.lt HO1.out k e).1))
  clear hO2 hp ha hg2
  go_wp2_with fail
  go_ret
  exact ⟨_, L', rfl, HP2.out, HA2.out, HO2.out, HB2.out⟩
set_option maxHeartbeats 1000000 in
/-- sorted: the elements, ascending, in a row of its own -/
theorem sorted_any {B : Nat} {v : Value} {L : List (List Int)} {w : World} (h : Oel B w v L) (hE : ∀ x ∈ L, El x) (h0 : 0 < L.length) (hl : L.length ≤ 900000) :
    Calls Try.prog 64 #[v] w fun e w' => ∃ v' L', e = .returned v' ∧ L'.Perm L ∧ Asc L' ∧ Oel w.heap.size w' v' L' ∧ Below w.heap.size w w' := by
  obtain ⟨g, cap, rfl⟩ := h.form h0
  have HO := Lib.hid h
  have HE := Lib.hid hE
  have H0 := Lib.hid h0
  have HL := Lib.hid hl
  obtain ⟨n, hn⟩ : ∃ n, n = L.length := ⟨_, rfl⟩
  have HN := Lib.hid hn
  rw [← hn]
  clear h hE h0 hl hn
  go_enter Try.func64, Try.ntmps64
  go_wp2_with fail
  refine (values_any _ _ _ _).mono ?_
  rintro e w1 ⟨rfl, rfl⟩
  have HB1 := Lib.hid ((Below.refl _ w).alloc (Nat.le_refl _) (.cells #[.slice (some ⟨g, 0, none⟩) n cap] 72))
  have HP := Lib.hid (Blk.new w 72 #[.slice (some ⟨g, 0, none⟩) n cap])
  go_wp2_with fail
  rw [HN.out] at *
  refine (sortedFunc_any w.heap.size g cap B L _ HP.out (World.ownsRow.alloc HO.out _) HE.out H0.out HL.out).mono ?_
  rintro e w2 ⟨v2, L', rfl, hp, ha, hO2, hb2⟩
  have HO2 := Lib.hid (Oel.mono hO2 HB1.out.size)
  have HP2 := Lib.hid hp
  have HA2 := Lib.hid ha
  have HB2 := Lib.hid (HB1.out.trans (hb2.mono HB1.out.size))
  clear hO2 hp ha hb2
  go_wp2_with fail
  go_ret
  exact ⟨_, L', rfl, HP2.out, HA2.out, HO2.out, HB2.out⟩
end Go.Proofs.Ytjnjhfificpbbaa
