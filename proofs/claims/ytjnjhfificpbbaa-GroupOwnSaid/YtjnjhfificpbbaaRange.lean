/- A law of my own for 'for x := range seq', where the sequence is known: its items are counted, the iterator may turn cells of its own between two rounds, and the body is told of each item in the world in which it comes. -/
import Derived.RangeFuncNested
import Derived.RangeFuncBound
import Derived.RangeFuncCalls
import Derived.RangeFuncLeaves
import Derived.Test.YtjnjhfificpbbaaBase
namespace Go.Proofs.Ytjnjhfificpbbaa
open Go.RowKit
variable {P : Program}

/-- From A to B only new blocks and blocks of 'priv' may have turned. -/
structure Turns (priv : Nat → Prop) (A B : World) : Prop where
  os : B.os = A.os
  tape : B.tape = A.tape
  output : B.output = A.output
  size : A.heap.size ≤ B.heap.size
  block : ∀ k, k < A.heap.size → ¬ priv k → B.heap[k]? = A.heap[k]?

theorem Turns.refl (priv : Nat → Prop) (A : World) : Turns priv A A := ⟨rfl, rfl, rfl, Nat.le_refl _, fun _ _ _ => rfl⟩
theorem Turns.trans {priv : Nat → Prop} {A B C : World} (h : Turns priv A B) (k : Turns priv B C) : Turns priv A C :=
  ⟨k.os.trans h.os, k.tape.trans h.tape, k.output.trans h.output, Nat.le_trans h.size k.size, fun i hi hp => (k.block i (Nat.lt_of_lt_of_le hi h.size) hp).trans (h.block i hi hp)⟩
theorem Turns.of_below {priv : Nat → Prop} {A B : World} (h : Below A.heap.size A B) : Turns priv A B := ⟨h.os, h.tape, h.output, h.size, fun k hk _ => h.block k hk⟩
theorem Turns.setCell {priv : Nat → Prop} {A B : World} (h : Turns priv A B) (b i : Nat) (v : Value) (hp : priv b) : Turns priv A (B.setCell ⟨b, i, none⟩ v) :=
  h.trans ⟨rfl, rfl, rfl, by simp, fun k _ hk => Below.heap_setCell B ⟨b, i, none⟩ v k (fun e => hk (e ▸ hp))⟩
theorem Turns.putObj {priv : Nat → Prop} (A : World) (l : Nat) (o : Obj) (hp : priv l) : Turns priv A (A.putObj l o) :=
  ⟨rfl, rfl, rfl, by simp [World.putObj], fun k _ hk => World.putObj_heap_other (fun e => hk (e ▸ hp))⟩
theorem Turns.alloc {priv : Nat → Prop} (A : World) (o : Obj) : Turns priv A (A.alloc o) := .of_below ((Below.refl _ A).alloc (Nat.le_refl _) o)
theorem Turns.mono {p q : Nat → Prop} {A B : World} (h : Turns p A B) (hpq : ∀ k, p k → q k) : Turns q A B := ⟨h.os, h.tape, h.output, h.size, fun k hk hq => h.block k hk (fun hp => hq (hpq k hp))⟩

theorem Ow.turns {priv : Nat → Prop} {A C : World} {B : Nat} {v : Value} {zs : List Int} (h : Ow B A v zs) (ht : Turns priv A C) (hn : ∀ r, v.ownBlock = some r → ¬ priv r) : Ow B C v zs := by
  obtain ⟨h1, h⟩ := h
  refine ⟨h1, ?_⟩
  rcases h with h | ⟨g, cap, cur, rfl, h2, h3, h4⟩
  · exact .inl h
  · exact .inr ⟨g, cap, cur, rfl, h2, (ht.block g (Array.getElem?_eq_some_iff.1 h3).1 (hn g rfl)).trans h3, h4⟩
theorem Blk.turns {priv : Nat → Prop} {A C : World} {b : Nat} {t : TypeId} {cs : Array Value} (h : Blk A b t cs) (ht : Turns priv A C) (hn : ¬ priv b) : Blk C b t cs := (ht.block b h.lt hn).trans h

theorem below_turns {priv : Nat → Prop} {n : Nat} {w A B : World} (h : Below n w A) (ht : Turns priv A B) (hn : ∀ b, b < n → ¬ priv b) (hs : n ≤ w.heap.size) : Below n w B :=
  ⟨ht.os.trans h.os, ht.tape.trans h.tape, ht.output.trans h.output, Nat.le_trans h.size ht.size, fun k hk => (ht.block k (by have := h.size; omega) (hn k hk)).trans (h.block k hk)⟩

/-- The iterator g with the captured lb, called in W: N items; 'item k': what is handed to the k-th round; 'priv': the iterator's own blocks; 'keep': what a round must keep. -/
def IdxSeq (P : Program) (g : Nat) (lb : Array Value) (N : Nat) (item : Nat → Array Value → World → Prop) (priv : Nat → Prop) (keep : World → World → Prop) (W : World) : Prop :=
  ∀ (l m : Nat) (J Jx : Nat → World → Prop), 
    (∀ k A B, J k A → Turns priv A B → J k B) →
    (∀ k A vs, k < N → J k A → item k vs A → YieldAt Fence.wide m P l vs A fun e B => (e = .returned (.bool true) ∧ J (k + 1) B ∧ keep A B) ∨ (e = .returned (.bool false) ∧ Jx k B)) →
    J 0 W → CallsIn Fence.wide (m + 1) P g (#[.func (.yield l) #[] #[]] ++ lb) W fun e B => (∃ v, e = .returned v) ∧ (J N B ∨ ∃ k, k < N ∧ Jx k B)

/-- How a round's body may be left: D and l are the blocks of the loop itself. -/
def idxPost (s : Nat) (keep : World → World → Prop) (I : Nat → World → Prop) (Ix : Code → Nat → World → Prop) (k : Nat) (A : World) : Exit → Act → World → Prop
  | .normal, _, B => (B.heap[s]? = A.heap[s]? ∧ B.heap[s + 1]? = A.heap[s + 1]?) ∧ keep A B ∧ I (k + 1) B
  | .ret, _, B => (B.heap[s]? = A.heap[s]? ∧ B.heap[s + 1]? = A.heap[s + 1]?) ∧ Ix .ret k B
  | .exit id, _, B => (B.heap[s]? = A.heap[s]? ∧ B.heap[s + 1]? = A.heap[s + 1]?) ∧ Ix (.exit id) k B
  | _, _, _ => False

set_option maxHeartbeats 400000 in
theorem wpIn_range_idx {g : Operand} {ps : Array Tmp} {assign body : Code} {Q : Exit → Act → World → Prop} {a : Act} {w : World} {m : Nat}
    {gf : Nat} {lb : Array Value} (hg : a.eval g = .func (.func gf) #[] lb) (eg : ∀ args w, (callFunc gf args).run P w = .ok (.enter gf args) w)
    {N : Nat} {item : Nat → Array Value → World → Prop} {priv : Nat → Prop} {keep : World → World → Prop}
    (hseq : ∀ W, Below w.heap.size w W → W.heap.size = w.heap.size + 2 → IdxSeq P gf lb N item priv keep W)
    (hpr : ∀ b, priv b → w.heap.size + 2 ≤ b)
    (hKt : ∀ {A B C : World}, keep A B → keep B C → keep A C) (hKb : ∀ (W : World) (o : Obj), keep W (W.putObj (w.heap.size + 1) o))
    (hps : ∀ k vs W, item k vs W → vs.size = ps.size)
    (hitem : ∀ k vs W (o : Obj), w.heap.size + 2 ≤ W.heap.size → item k vs W → item k vs (W.putObj (w.heap.size + 1) o))
    (I : Nat → World → Prop) (Ix : Code → Nat → World → Prop)
    (hI : ∀ k A B, I k A → Turns (fun b => b = w.heap.size + 1 ∨ priv b) A B → I k B) (hIx : ∀ c k A B, Ix c k A → Turns (fun b => b = w.heap.size + 1 ∨ priv b) A B → Ix c k B) (h0 : I 0 w) (a₁ : Array Value → Act)
    (hassign : ∀ (l k : Nat) (vs : Array Value) (W : World) (K : Act → World → Prop), item k vs W → K (a₁ vs) W →
      assign.wpIn (Fence.wide.inRound l) m P (Exit.then K (fun _ _ _ => False)) { tmps := (ps.zip vs).foldl (fun t (p, v) => t.setIfInBounds p v) a.tmps, defers := [] } W)
    (hbody : ∀ (l k : Nat) (vs : Array Value) (W : World), k < N → I k W → item k vs W → w.heap.size + 2 ≤ W.heap.size → body.wpIn (Fence.wide.inRound l) m P (idxPost w.heap.size keep I Ix k W) (a₁ vs) W)
    (hdone : ∀ (W : World), I N W → W.heap[w.heap.size]? = some (.deferred (some [])) → Q .normal { a with defers := { target := .collected w.heap.size, args := #[] } :: a.defers } W)
    (hstop : ∀ (c : Code) (k : Nat) (W : World), k < N → Ix c k W → W.heap[w.heap.size]? = some (.deferred (some [])) → c.wpIn Fence.wide (m + 2) P Q { a with defers := { target := .collected w.heap.size, args := #[] } :: a.defers } W) :
    (Code.rangeFunc g ps assign body).wpIn Fence.wide (m + 2) P Q a w := by
  refine wpIn_rangeFunc ?_
  intro fn hfn
  obtain ⟨s, hs0⟩ : ∃ s, w.heap.size = s := ⟨_, rfl⟩
  rw [hs0] at hseq hpr hI hIx hdone hstop
  simp only [hs0] at hKb hitem hbody
  have hs : s = w.heap.size := hs0.symm
  let rc : LoopState → Option Code → Loop := fun st pe => { state := st, pending := pe, fn, tmps := a.tmps, params := ps, assign, body, defers := s }
  obtain ⟨W1, hW1⟩ : ∃ W1, (w.alloc (.deferred (some []))).alloc (.loop (rc .ready none)) = W1 := ⟨_, rfl⟩
  have hsz : W1.heap.size = s + 2 := by rw [← hW1, hs]; simp
  have hL1 : W1.heap[s + 1]? = some (.loop (rc .ready none)) := by
    rw [← hW1, hs]; have := World.alloc_heap_new (w.alloc (.deferred (some []))) (.loop (rc .ready none)); rwa [World.size_alloc] at this
  have hK1 : W1.heap[s]? = some (.deferred (some [])) := by
    rw [← hW1, hs]; exact (Below.heap_alloc _ _ _ (by simp)).trans (World.alloc_heap_new w _)
  have hb1 : Below s w W1 := by
    rw [← hW1, hs]; exact ((Below.refl _ w).alloc (Nat.le_refl _) _).alloc (by simp) _
  have hI1 : I 0 W1 := by
    refine hI 0 w W1 h0 ⟨hb1.os, hb1.tape, hb1.output, hb1.size, fun k hk _ => hb1.block k (by omega)⟩
  clear hs0
  refine ⟨s + 1, [{ target := .collected s, args := #[] }], W1, { target := .fn (.func gf) lb, args := #[.func (.yield (s + 1)) #[] #[]] }, W1, gf,
    #[.func (.yield (s + 1)) #[] #[]] ++ lb, W1, ?_, ?_, ?_, ?_, fun _ => by omega, ?_⟩
  · rw [← hW1]
    have := run_enterLoop_outer (P := P) (w := w) fn a.tmps ps assign body
    rw [← hs] at this
    exact this
  · simp only [resolve, hg]
    simp [go_sem]
  · intro f' _; trivial
  · simp [invoke, go_sem, eg]
  · have hmov : ∀ {A B : World} {o : Obj}, Turns priv A B → ∀ b, b < s + 2 → b < A.heap.size → A.heap[b]? = some o → B.heap[b]? = some o :=
      fun ht b hb hlt ho => (ht.block b hlt (fun hp => by have := hpr b hp; omega)).trans ho
    refine (hseq W1 hb1 hsz (s + 1) m
      (fun k W => I k W ∧ (s + 2 ≤ W.heap.size ∧ W.heap[s + 1]? = some (.loop (rc .ready none))) ∧ W.heap[s]? = some (.deferred (some [])))
      (fun k W => ∃ c, Ix c k W ∧ (s + 2 ≤ W.heap.size ∧ W.heap[s + 1]? = some (.loop (rc .done (some c)))) ∧ W.heap[s]? = some (.deferred (some [])))
      (fun k A B h ht => ⟨hI k A B h.1 (ht.mono fun _ h => .inr h), ⟨Nat.le_trans h.2.1.1 ht.size, hmov ht _ (by omega) (by have := h.2.1.1; omega) h.2.1.2⟩, hmov ht _ (by omega) (by have := h.2.1.1; omega) h.2.2⟩)
      ?_ ⟨hI1, ⟨by omega, hL1⟩, hK1⟩).mono ?_
    · rintro k W vs hk ⟨hi, ⟨hlt, hl⟩, hd⟩ hit
      have hy := run_yield (P := P) (args := vs) hl (hps k vs W hit)
      refine ⟨fn, _, assign, body, hy, roundIn_of_wpIn hfn (hassign _ k vs W _ hit ⟨_, run_beginRound hl rfl, ?_⟩)⟩
      obtain ⟨W2, hW2⟩ : ∃ W2, W2 = W.putObj (s + 1) (.loop { rc .ready none with state := .busy }) := ⟨_, rfl⟩
      rw [← hW2]
      have ht2 : Turns (fun b => b = s + 1 ∨ priv b) W W2 := by rw [hW2]; exact Turns.putObj _ _ _ (.inl rfl)
      have hl2 : W2.heap[s + 1]? = some (.loop { rc .ready none with state := .busy }) := by rw [hW2]; exact World.putObj_heap_same (by omega)
      have hd2 : W2.heap[s]? = some (.deferred (some [])) := by rw [hW2]; exact (World.putObj_heap_other (by omega)).trans hd
      have hk2 : keep W W2 := by rw [hW2]; exact hKb _ _
      have hit2 : item k vs W2 := by rw [hW2]; exact hitem _ _ _ _ hlt hit
      have hs2 : s + 2 ≤ W2.heap.size := by have := ht2.size; omega
      refine wpIn_mono (hbody _ k vs W2 hk (hI _ _ _ hi ht2) hit2 hs2) ?_
      have fin : ∀ (jump : Option Code) (W3 : World), W3.heap[s]? = W2.heap[s]? ∧ W3.heap[s + 1]? = W2.heap[s + 1]? →
          ∃ W4, (Instr.endRound (s + 1) jump).run P W3 = .ok (.bool jump.isNone) W4 ∧ W4 = W3.putObj (s + 1) (.loop (rc (if jump.isNone then .ready else .done) jump)) ∧ Turns (fun b => b = s + 1 ∨ priv b) W3 W4 ∧
          (s + 2 ≤ W4.heap.size ∧ W4.heap[s + 1]? = some (.loop (rc (if jump.isNone then .ready else .done) jump))) ∧ W4.heap[s]? = some (.deferred (some [])) := fun jump W3 hk3 => by
        have hl3 := hk3.2.trans hl2
        have hlt3 : s + 1 < W3.heap.size := (Array.getElem?_eq_some_iff.1 hl3).1
        refine ⟨_, run_endRound (P := P) jump hl3, rfl, Turns.putObj _ _ _ (.inl rfl), ⟨?_, World.putObj_heap_same hlt3⟩, (World.putObj_heap_other (by omega)).trans (hk3.1.trans hd2)⟩
        simp [World.putObj]; omega
      rintro e a3 W3 hp
      cases e with
      | normal =>
        obtain ⟨hk3, hkp3, hi3⟩ := hp
        obtain ⟨W4, hr, hW4, ht4, hl4, hd4⟩ := fin none W3 hk3
        refine ⟨_, W4, hr, .inl ⟨rfl, ⟨hI _ _ _ hi3 ht4, hl4, hd4⟩, hKt (hKt hk2 hkp3) ?_⟩⟩
        rw [hW4]; exact hKb _ _
      | ret =>
        obtain ⟨hk3, hi3⟩ := hp
        obtain ⟨W4, hr, _, ht4, hl4, hd4⟩ := fin (some .ret) W3 hk3
        exact ⟨_, W4, hr, .inr ⟨rfl, .ret, hIx _ _ _ _ hi3 ht4, hl4, hd4⟩⟩
      | exit id =>
        obtain ⟨hk3, hi3⟩ := hp
        obtain ⟨W4, hr, _, ht4, hl4, hd4⟩ := fin (some (.exit id)) W3 hk3
        exact ⟨_, W4, hr, .inr ⟨rfl, .exit id, hIx _ _ _ _ hi3 ht4, hl4, hd4⟩⟩
      | goto t => exact hp.elim
      | panic ch => exact hp.elim
      | outgrown => exact hp.elim
    · rintro e W2 ⟨⟨v, rfl⟩, (⟨hi, hl, hd⟩ | ⟨k, hk, c, hi, hl, hd⟩)⟩
      · exact ⟨none, _, run_endLoop (P := P) hl.2 (by simp [rc]), hdone _ (hI _ _ _ hi (Turns.putObj _ _ _ (.inl rfl))) ((World.putObj_heap_other (by omega)).trans hd)⟩
      · exact ⟨some c, _, run_endLoop (P := P) hl.2 (by simp [rc]), hstop c k _ hk (hIx _ _ _ _ hi (Turns.putObj _ _ _ (.inl rfl))) ((World.putObj_heap_other (by omega)).trans hd)⟩

end Go.Proofs.Ytjnjhfificpbbaa
