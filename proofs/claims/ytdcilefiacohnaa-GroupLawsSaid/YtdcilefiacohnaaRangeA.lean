/- A range over a function whose rounds make the variable anew in the assignment. -/
import Derived.Test.YtdcilefiacohnaaRange
import Derived.RangeFuncNested
import Derived.RangeFuncBound
import Derived.RangeFuncCalls
import Derived.RangeFuncLeaves
import Derived.Test.YtdcilefiacohnaaBase
namespace Go.Proofs.Ytdcilefiacohnaa
open Go.RowKit
variable {P : Program}
set_option maxHeartbeats 400000 in
theorem wpIn_range_as {g : Operand} {ps : Array Tmp} {assign body : Code} {Q : Exit → Act → World → Prop} {a : Act} {w : World} {m : Nat}
    {gf : Nat} {lb : Array Value} (hg : a.eval g = .func (.func gf) #[] lb) (eg : ∀ args w, (callFunc gf args).run P w = .ok (.enter gf args) w)
    {N : Nat} {item : Nat → Array Value → World → Prop} {priv : Nat → Prop} {keep : World → World → Prop}
    (hseq : ∀ W, Below w.heap.size w W → W.heap.size = w.heap.size + 2 → IdxSeq P gf lb N item priv keep W)
    (hpr : ∀ b, priv b → w.heap.size + 2 ≤ b)
    (hKt : ∀ {A B C : World}, keep A B → keep B C → keep A C) (hKb : ∀ (W : World) (o : Obj), keep W (W.putObj (w.heap.size + 1) o))
    (hps : ∀ k vs W, item k vs W → vs.size = ps.size)
    (as : Nat → Array Value → Act → World → Prop) (has : ∀ k vs a1 W (o : Obj), w.heap.size + 2 ≤ W.heap.size → as k vs a1 W → as k vs a1 (W.putObj (w.heap.size + 1) o))
    (I : Nat → World → Prop) (Ix : Code → Nat → World → Prop)
    (hI : ∀ k A B, I k A → Turns (fun b => b = w.heap.size + 1 ∨ priv b) A B → I k B) (hIx : ∀ c k A B, Ix c k A → Turns (fun b => b = w.heap.size + 1 ∨ priv b) A B → Ix c k B) (h0 : I 0 w)
    (hassign : ∀ (l k : Nat) (vs : Array Value) (W : World) (K : Act → World → Prop), k < N → w.heap.size + 2 ≤ W.heap.size → item k vs W → (∀ a1 W1, as k vs a1 W1 → Turns (fun _ => False) W W1 → keep W W1 → K a1 W1) →
      assign.wpIn (Fence.wide.inRound l) m P (Exit.then K (fun _ _ _ => False)) { tmps := (ps.zip vs).foldl (fun t (p, v) => t.setIfInBounds p v) a.tmps, defers := [] } W)
    (hbody : ∀ (l k : Nat) (vs : Array Value) (a1 : Act) (W : World), k < N → I k W → as k vs a1 W → w.heap.size + 2 ≤ W.heap.size → body.wpIn (Fence.wide.inRound l) m P (idxPost w.heap.size keep I Ix k W) a1 W)
    (hdone : ∀ (W : World), I N W → W.heap[w.heap.size]? = some (.deferred (some [])) → Q .normal { a with defers := { target := .collected w.heap.size, args := #[] } :: a.defers } W)
    (hstop : ∀ (c : Code) (k : Nat) (W : World), k < N → Ix c k W → W.heap[w.heap.size]? = some (.deferred (some [])) → c.wpIn Fence.wide (m + 2) P Q { a with defers := { target := .collected w.heap.size, args := #[] } :: a.defers } W) :
    (Code.rangeFunc g ps assign body).wpIn Fence.wide (m + 2) P Q a w := by
  refine wpIn_rangeFunc ?_
  intro fn hfn
  obtain ⟨s, hs0⟩ : ∃ s, w.heap.size = s := ⟨_, rfl⟩
  rw [hs0] at hseq hpr hI hIx hdone hstop
  simp only [hs0] at hKb has hbody hassign
  have hs : s = w.heap.size := hs0.symm
  let rc : LoopState → Option Code → Loop := fun st pe => { state := st, pending := pe, fn, tmps := a.tmps, params := ps, assign, body, defers := s }
  obtain ⟨W1, hW1⟩ : ∃ W1, (w.alloc (.deferred (some []))).alloc (.loop (rc .ready none)) = W1 := ⟨_, rfl⟩
  have hsz : W1.heap.size = s + 2 := by rw [← hW1, hs]; simp
  have hL1 : W1.heap[s + 1]? = some (.loop (rc .ready none)) := by
    rw [← hW1, hs]; have := World.alloc_heap_new (w.alloc (.deferred (some []))) (.loop (rc .ready none)); rwa [World.size_alloc] at this
  have hK1 : W1.heap[s]? = some (.deferred (some [])) := by
    rw [← hW1, hs]; exact (Below.heap_alloc _ _ _ (by simp)).trans (World.alloc_heap_new w _)
  have hb1 : Below s w W1 := by
    rw [← hW1, hs]; exact ((Below.refl _ w).alloc (Nat.le_refl _) _).alloc (by simp) _
  have hI1 : I 0 W1 := by
    refine hI 0 w W1 h0 ⟨hb1.os, hb1.tape, hb1.output, hb1.size, fun k hk _ => hb1.block k (by omega)⟩
  clear hs0
  refine ⟨s + 1, [{ target := .collected s, args := #[] }], W1, { target := .fn (.func gf) lb, args := #[.func (.yield (s + 1)) #[] #[]] }, W1, gf,
    #[.func (.yield (s + 1)) #[] #[]] ++ lb, W1, ?_, ?_, ?_, ?_, fun _ => by omega, ?_⟩
  · rw [← hW1]
    have := run_enterLoop_outer (P := P) (w := w) fn a.tmps ps assign body
    rw [← hs] at this
    exact this
  · simp only [resolve, hg]
    simp [go_sem]
  · intro f' _; trivial
  · simp [invoke, go_sem, eg]
  · have hmov : ∀ {A B : World} {o : Obj}, Turns priv A B → ∀ b, b < s + 2 → b < A.heap.size → A.heap[b]? = some o → B.heap[b]? = some o :=
      fun ht b hb hlt ho => (ht.block b hlt (fun hp => by have := hpr b hp; omega)).trans ho
    refine (hseq W1 hb1 hsz (s + 1) m
      (fun k W => I k W ∧ (s + 2 ≤ W.heap.size ∧ W.heap[s + 1]? = some (.loop (rc .ready none))) ∧ W.heap[s]? = some (.deferred (some [])))
      (fun k W => ∃ c, Ix c k W ∧ (s + 2 ≤ W.heap.size ∧ W.heap[s + 1]? = some (.loop (rc .done (some c)))) ∧ W.heap[s]? = some (.deferred (some [])))
      (fun k A B h ht => ⟨hI k A B h.1 (ht.mono fun _ h => .inr h), ⟨Nat.le_trans h.2.1.1 ht.size, hmov ht _ (by omega) (by have := h.2.1.1; omega) h.2.1.2⟩, hmov ht _ (by omega) (by have := h.2.1.1; omega) h.2.2⟩)
      ?_ ⟨hI1, ⟨by omega, hL1⟩, hK1⟩).mono ?_
    · rintro k W vs hk ⟨hi, ⟨hlt, hl⟩, hd⟩ hit
      have hy := run_yield (P := P) (args := vs) hl (hps k vs W hit)
      refine ⟨fn, _, assign, body, hy, roundIn_of_wpIn hfn (hassign _ k vs W _ hk hlt hit (fun a1 W1 ha1 ht1 hk1 => ⟨_, run_beginRound ((ht1.block (s + 1) (by omega) (fun h => h)).trans hl) rfl, ?_⟩))⟩
      have hlt1 : s + 2 ≤ W1.heap.size := Nat.le_trans hlt ht1.size
      have hd1 : W1.heap[s]? = some (.deferred (some [])) := (ht1.block s (by omega) (fun h => h)).trans hd
      have hi1 : I k W1 := hI _ _ _ hi (ht1.mono fun _ h => h.elim)
      obtain ⟨W2, hW2⟩ : ∃ W2, W2 = W1.putObj (s + 1) (.loop { rc .ready none with state := .busy }) := ⟨_, rfl⟩
      rw [← hW2]
      have ht2 : Turns (fun b => b = s + 1 ∨ priv b) W1 W2 := by rw [hW2]; exact Turns.putObj _ _ _ (.inl rfl)
      have hl2 : W2.heap[s + 1]? = some (.loop { rc .ready none with state := .busy }) := by rw [hW2]; exact World.putObj_heap_same (by omega)
      have hd2 : W2.heap[s]? = some (.deferred (some [])) := by rw [hW2]; exact (World.putObj_heap_other (by omega)).trans hd1
      have hk2 : keep W W2 := hKt hk1 (by rw [hW2]; exact hKb _ _)
      have hit2 : as k vs a1 W2 := by rw [hW2]; exact has _ _ _ _ _ hlt1 ha1
      have hs2 : s + 2 ≤ W2.heap.size := by have := ht2.size; omega
      refine wpIn_mono (hbody _ k vs a1 W2 hk (hI _ _ _ hi1 ht2) hit2 hs2) ?_
      have fin : ∀ (jump : Option Code) (W3 : World), W3.heap[s]? = W2.heap[s]? ∧ W3.heap[s + 1]? = W2.heap[s + 1]? →
          ∃ W4, (Instr.endRound (s + 1) jump).run P W3 = .ok (.bool jump.isNone) W4 ∧ W4 = W3.putObj (s + 1) (.loop (rc (if jump.isNone then .ready else .done) jump)) ∧ Turns (fun b => b = s + 1 ∨ priv b) W3 W4 ∧
          (s + 2 ≤ W4.heap.size ∧ W4.heap[s + 1]? = some (.loop (rc (if jump.isNone then .ready else .done) jump))) ∧ W4.heap[s]? = some (.deferred (some [])) := fun jump W3 hk3 => by
        have hl3 := hk3.2.trans hl2
        have hlt3 : s + 1 < W3.heap.size := (Array.getElem?_eq_some_iff.1 hl3).1
        refine ⟨_, run_endRound (P := P) jump hl3, rfl, Turns.putObj _ _ _ (.inl rfl), ⟨?_, World.putObj_heap_same hlt3⟩, (World.putObj_heap_other (by omega)).trans (hk3.1.trans hd2)⟩
        simp [World.putObj]; omega
      rintro e a3 W3 hp
      cases e with
      | normal =>
        obtain ⟨hk3, hkp3, hi3⟩ := hp
        obtain ⟨W4, hr, hW4, ht4, hl4, hd4⟩ := fin none W3 hk3
        refine ⟨_, W4, hr, .inl ⟨rfl, ⟨hI _ _ _ hi3 ht4, hl4, hd4⟩, hKt (hKt hk2 hkp3) ?_⟩⟩
        rw [hW4]; exact hKb _ _
      | ret =>
        obtain ⟨hk3, hi3⟩ := hp
        obtain ⟨W4, hr, _, ht4, hl4, hd4⟩ := fin (some .ret) W3 hk3
        exact ⟨_, W4, hr, .inr ⟨rfl, .ret, hIx _ _ _ _ hi3 ht4, hl4, hd4⟩⟩
      | exit id =>
        obtain ⟨hk3, hi3⟩ := hp
        obtain ⟨W4, hr, _, ht4, hl4, hd4⟩ := fin (some (.exit id)) W3 hk3
        exact ⟨_, W4, hr, .inr ⟨rfl, .exit id, hIx _ _ _ _ hi3 ht4, hl4, hd4⟩⟩
      | goto t => exact hp.elim
      | panic ch => exact hp.elim
      | outgrown => exact hp.elim
    · rintro e W2 ⟨⟨v, rfl⟩, (⟨hi, hl, hd⟩ | ⟨k, hk, c, hi, hl, hd⟩)⟩
      · exact ⟨none, _, run_endLoop (P := P) hl.2 (by simp [rc]), hdone _ (hI _ _ _ hi (Turns.putObj _ _ _ (.inl rfl))) ((World.putObj_heap_other (by omega)).trans hd)⟩
      · exact ⟨some c, _, run_endLoop (P := P) hl.2 (by simp [rc]), hstop c k _ hk (hIx _ _ _ _ hi (Turns.putObj _ _ _ (.inl rfl))) ((World.putObj_heap_other (by omega)).trans hd)⟩

end Go.Proofs.Ytdcilefiacohnaa
