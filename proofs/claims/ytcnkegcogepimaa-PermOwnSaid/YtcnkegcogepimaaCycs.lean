/- perm.Parity and perm.Cycles, by their meaning; words for slices of slices of integers. -/
import Derived.Test.YtcnkegcogepimaaProg
import Derived.Test.YtcnkegcogepimaaBase
import Derived.Test.YtcnkegcogepimaaLists
import Derived.Test.YtcnkegcogepimaaCycL
import Derived.Test.YtcnkegcogepimaaValid
import Derived.Test.YtcnkegcogepimaaNums
import Derived.Test.YtcnkegcogepimaaRange
import Derived.Test.YtcnkegcogepimaaIter
import Derived.Shelf.Abstract
import Derived.OwnWalkIn
import Derived.TacticsInMore
import Derived.LoopNIn
import Derived.LoopIn
import Derived.Maps.AppendAt
namespace Go.Proofs.Ytcnkegcogepimaa
open Go.RowKit Go.Shelf
attribute [local go_sem] Oper.semAt_some

theorem infoInts : (Try.prog.info? 22).map (fun i => (i.zero, i.size, i.bytes)) = some (some (.slice none 0 0), 1, 24) := by kernel_rfl

/-- v is a slice of slices of the call's own, from block B on, that holds the lists css. -/
def Ows (B : Nat) (w : World) (v : Value) (css : List (List Int)) : Prop :=
  ∃ vs : List Value, vs.length = css.length ∧ w.ownsRow B 22 1 v vs.length vs ∧ ∀ i, i < css.length → Ow B w (vs.getD i undef) (css.getD i [])

theorem Ows.nil (B : Nat) (w : World) : Ows B w (.slice none 0 0) [] := ⟨[], rfl, World.ownsRow_nil _ _ _ _, fun i hi => by simp at hi⟩

theorem ownsRow_turns {priv : Nat → Prop} {A C : World} {B : Nat} {t : TypeId} {v : Value} {n : Nat} {xs : List Value} (h : A.ownsRow B t 1 v n xs) (ht : Turns priv A C) (hn : ∀ r, v.ownBlock = some r → ¬ priv r) : C.ownsRow B t 1 v n xs := by
  obtain ⟨h1, h⟩ := h
  refine ⟨h1, ?_⟩
  rcases h with h | ⟨g, cap, cur, rfl, h2, h3, h4⟩
  · exact .inl h
  · exact .inr ⟨g, cap, cur, rfl, h2, (ht.block g (Array.getElem?_eq_some_iff.1 h3).1 (hn g rfl)).trans h3, h4⟩

theorem Ows.turns {priv : Nat → Prop} {A C : World} {B : Nat} {v : Value} {css : List (List Int)} (h : Ows B A v css) (ht : Turns priv A C) (hp : ∀ b, priv b → b < B) : Ows B C v css := by
  obtain ⟨vs, h1, h2, h3⟩ := h
  exact ⟨vs, h1, ownsRow_turns h2 ht (fun r e hr => by have := (h2.lt r e).1; have := hp r hr; omega), fun i hi => (h3 i hi).turns ht (fun r e hr => by have := ((h3 i hi).lt r e).1; have := hp r hr; omega)⟩
theorem Ows.below {B : Nat} {A C : World} {v : Value} {css : List (List Int)} (h : Ows B A v css) (hb : Below A.heap.size A C) : Ows B C v css := by
  obtain ⟨vs, h1, h2, h3⟩ := h
  exact ⟨vs, h1, ownsRow_turns (priv := fun _ => False) h2 (Turns.of_below hb) (fun _ _ h => h), fun i hi => (h3 i hi).below hb⟩
theorem Ows.mono {B B' : Nat} {w : World} {v : Value} {css : List (List Int)} (h : Ows B w v css) (hB : B' ≤ B) : Ows B' w v css := by
  obtain ⟨vs, h1, ⟨h2, h2'⟩, h3⟩ := h
  refine ⟨vs, h1, ⟨h2, ?_⟩, fun i hi => (h3 i hi).mono hB⟩
  rcases h2' with h | ⟨g, cap, cur, e, h4, h5⟩
  · exact .inl h
  · exact .inr ⟨g, cap, cur, e, by omega, h5⟩

/-- a row of slices and a row of integers are two blocks -/
theorem apart {A : World} {B B' : Nat} {v x : Value} {n : Nat} {xs : List Value} {zs : List Int} (h : A.ownsRow B 22 1 v n xs) (k : Ow B' A x zs) : ∀ b, x.ownBlock = some b → v.ownBlock ≠ some b := by
  intro b hb hv
  obtain ⟨_, h⟩ := h
  obtain ⟨_, k⟩ := k
  rcases h with ⟨rfl, _⟩ | ⟨g, cap, cur, rfl, _, h3, _⟩
  · cases hv
  · rcases k with ⟨rfl, _⟩ | ⟨g', cap', cur', rfl, _, k3, _⟩
    · cases hb
    · cases hb
      cases hv
      rw [h3] at k3
      cases k3

theorem Ow.row {A C : World} {B : Nat} {row : Option Nat} {x : Value} {zs : List Int} (k : Ow B A x zs) (hg : A.grownBy C row) (hne : ∀ b, x.ownBlock = some b → row ≠ some b) : Ow B C x zs := by
  obtain ⟨h1, h⟩ := k
  refine ⟨h1, ?_⟩
  rcases h with h | ⟨g, cap, cur, rfl, h2, h3, h4⟩
  · exact .inl h
  · exact .inr ⟨g, cap, cur, rfl, h2, (hg.block g (Array.getElem?_eq_some_iff.1 h3).1 (fun e => hne g rfl e.symm)).trans h3, h4⟩

theorem Ows.push {A C : World} {B : Nat} {v v' x : Value} {vs : List Value} {css : List (List Int)} {c : List Int} {tmp : Obj}
    (h1 : vs.length = css.length) (h2 : A.ownsRow B 22 1 v vs.length vs) (h3 : ∀ i, i < css.length → Ow B A (vs.getD i undef) (css.getD i [])) (hx : Ow B A x c)
    (hown : C.ownsRow B 22 1 v' (vs.length + 1) (vs ++ [x])) (hg : (A.alloc tmp).grownBy C v.ownBlock) : Ows B C v' (css ++ [c]) := by
  have hal : Below A.heap.size A (A.alloc tmp) := (Below.refl _ A).alloc (Nat.le_refl _) _
  have keep : ∀ y zs, Ow B A y zs → Ow B C y zs := fun y zs k => (k.below hal).row hg (apart h2 k)
  refine ⟨vs ++ [x], by simp [h1], by simpa using hown, fun i hi => ?_⟩
  simp only [List.length_append, List.length_singleton] at hi
  by_cases e : i < css.length
  · have := keep _ _ (h3 i e)
    simpa [List.getElem?_append, e, show i < vs.length by omega] using this
  · obtain rfl : i = css.length := by omega
    have := keep _ _ hx
    simpa [← h1] using this

def exTo (p : List Int) (k : Nat) : Nat := (((cyc p).take k).map fun c => c.length - 1).sum
def parL (p : List Int) : Nat := exTo p (cyc p).length % 2
theorem exTo_succ (p : List Int) (k : Nat) (hk : k < (cyc p).length) : exTo p (k + 1) = exTo p k + (((cyc p).getD k []).length - 1) := by
  unfold exTo
  rw [List.take_succ_eq_append_getElem hk, List.map_append, List.sum_append]
  simp [hk]
theorem exTo_le {p : List Int} (h : validL p = true) (k : Nat) : k ≤ (cyc p).length → exTo p k ≤ k * 7 := by
  induction k with
  | zero => intro _; simp [exTo]
  | succ k ih =>
    intro hk
    have := ih (by omega)
    have := cyc_len h (k := k) (by omega)
    rw [exTo_succ p k (by omega)]
    omega
theorem cyTo_count (p : List Int) (k : Nat) : (cyTo p k).1.length ≤ k := by
  induction k with
  | zero => simp [cyTo]
  | succ k ih =>
    by_cases hm : (k : Int) ∈ (cyTo p k).2
    · rw [cyTo_old hm]; omega
    · rw [cyTo_new hm]; simp; omega
theorem cyc_count {p : List Int} (h : validL p = true) : (cyc p).length ≤ 7 := by
  have := cyTo_count p p.length
  have := ((validL_iff p).1 h).2.1
  unfold cyc
  omega

set_option maxHeartbeats 400000 in
theorem parity_no (v : Value) (p : List Int) (w : World) (h : Sl w v p) (hx : p.length ≤ 1000000) (hv : validL p = false) :
    Calls Try.prog 19 #[v] w fun e w' => e = .returned (.int .i64 (-1)) ∧ Below w.heap.size w w' := by
  have HS := Lib.hid h
  obtain ⟨a, ca, rfl, _⟩ := h
  have HV := Lib.hid hv
  clear hv
  go_enter Try.func19, Try.ntmps19
  go_wp2_with (go_at_call 17; refine (valid_any _ p _ HS.out hx).mono ?_; rintro e w1 ⟨rfl, hb⟩; rw [HV.out])
  go_ret
  exact ⟨rfl, hb⟩

set_option maxRecDepth 100000 in
set_option maxHeartbeats 1000000 in
theorem parity_yes (v : Value) (p : List Int) (w : World) (h : Sl w v p) (hv : validL p = true) :
    Calls Try.prog 19 #[v] w fun e w' => e = .returned (.int .i64 (parL p)) ∧ Below w.heap.size w w' := by
  have HS := Lib.hid h
  obtain ⟨a, ca, rfl, _⟩ := h
  refine (callsIn_wide (n := 3)).1 ?_
  have hv7 := ((validL_iff p).1 hv).2.1
  have hx : p.length ≤ 1000000 := by omega
  have HV := Lib.hid hv
  refine callsIn_of_wp_marks Try.func19 rfl trivial ?_ rfl
  simp only [Try.ntmps19, List.size_toArray, List.length_cons, List.length_nil, Nat.reduceAdd, Nat.reduceSub, Array.replicate_succ, Array.replicate_zero, List.push_toArray, List.append_toArray, List.nil_append, List.cons_append]
  clear hv
  gi_wp2_with (first | (refine ⟨trivial, ?_⟩; gi_at_call 17; refine (callsIn_wide.2 (valid_any _ p _ HS.out hx)).mono ?_; rintro e w1 ⟨rfl, hb⟩; rw [HV.out]) | (refine ⟨trivial, ?_⟩; gi_at_call 51; refine (callsIn_wide.2 (cycles_any _ _ _ _)).mono ?_; rintro e w2 ⟨rfl, rfl⟩))
  obtain ⟨W2, hW2⟩ : ∃ W2, W2 = (w1.alloc (.cells #[.int .i64 0] 3)).alloc (.cells #[.slice a p.length ca] 23) := ⟨_, rfl⟩
  have hsz : W2.heap.size = w1.heap.size + 2 := by rw [hW2]; simp
  have hB1 : Blk W2 w1.heap.size 3 #[.int .i64 0] := by rw [hW2]; exact (Blk.new _ _ _).alloc _
  have hB2 : Blk W2 (w1.heap.size + 1) 23 #[.slice a p.length ca] := by
    rw [hW2]; have := Blk.new (w1.alloc (.cells #[.int .i64 0] 3)) 23 #[.slice a p.length ca]
    rwa [World.size_alloc] at this
  have hb2 : Below w.heap.size w W2 := by rw [hW2]; exact (hb.alloc hb.size _).alloc (by have := hb.size; simp; omega) _
  have hws : w.heap.size ≤ w1.heap.size := hb.size
  rw [← hW2]
  clear hW2
  refine wpIn_range_idx (m := 1) (gf := 61) (lb := #[.pointer (some ⟨w1.heap.size + 1, 0, none⟩)]) rfl (enters_of Try.func61 (by kernel_rfl) rfl)
    (N := (cyc p).length) (item := cyItem p (W2.heap.size + 2)) (priv := fun b => b = W2.heap.size + 2) (keep := cyKeep w.heap.size (w1.heap.size + 1) (W2.heap.size + 2))
    (fun W hbW hsW => by
      have := iter_seq w.heap.size (w1.heap.size + 1) (.slice a p.length ca) p HV.out W (hB2.below hbW) (by omega) (SlUp.of_below HS.out rfl (hb2.trans (hbW.mono (by omega))))
      rw [hsW] at this
      exact this)
    (fun b hb => by omega) (fun h k => h.trans k) (fun W o => cyKeep.putObj W o (by omega) (by omega) (by omega))
    (fun k vs W hi => by obtain ⟨v, rfl, _⟩ := hi; rfl) (fun k vs W o hs hi => cyItem.putObj o hi (by omega))
    (fun k W => Blk W w1.heap.size 3 #[.int .i64 (exTo p k)] ∧ Below w.heap.size w W)
    (fun _ _ _ => False)
    (fun k A B hI ht => ⟨hI.1.turns ht (by omega), below_turns hI.2 ht (fun b hb => by omega) (Nat.le_refl _)⟩)
    (fun _ _ _ _ h _ => h)
    ⟨hB1, hb2⟩
    (fun vs => { tmps := #[.slice a p.length ca, undef, .int .i64 0, .pointer (some ⟨w1.heap.size, 0, none⟩), vs.getD 0 undef, .slice a p.length ca, .bool true, .bool false, .slice a p.length ca, .func (.func 61) #[] #[.pointer (some ⟨w1.heap.size + 1, 0, none⟩)], vs.getD 0 undef, undef, undef, undef, undef, undef, undef, undef], defers := [] }) ?assign ?body ?done ?stop
  case assign =>
    rintro l k vs W K ⟨v, rfl, _⟩ hK
    gi_wp2
    exact hK
  case body =>
    rintro l k vs W hk ⟨hB, hbW⟩ ⟨v, rfl, hO, hsW⟩ hs2
    obtain ⟨l1, l7⟩ := cyc_len HV.out hk
    have hk7 := cyc_count HV.out
    have q2 := exTo_le HV.out k (by omega)
    have hee := exTo_succ p k hk
    obtain ⟨a2, c2, rfl, _⟩ := hO.sl
    clear hO
    obtain ⟨E2, hE2⟩ : ∃ E2, E2 = exTo p (k + 1) := ⟨_, rfl⟩
    rw [← hE2] at hee
    have HE2 := Lib.hid hE2
    clear hE2
    generalize ((cyc p).getD k []).length = len at *
    generalize exTo p k = o at *
    have HO' : Hid (((o : Int) + ((len : Int) - 1)) = (E2 : Int)) := Lib.hid (by omega)
    have hc : W.cell? ⟨w1.heap.size, 0, none⟩ = some (.int .i64 o) := by simpa using hB.cell 0
    have hf := hB.free 0
    have HB := Lib.hid hB
    clear hB hee
    gi_wp2
    refine ⟨⟨Below.heap_setCell _ _ _ _ (by show _ ≠ w1.heap.size; omega), Below.heap_setCell _ _ _ _ (by show _ ≠ w1.heap.size; omega)⟩, (cyKeep.refl W).setCell _ _ _ hws (by omega) (by omega), ?_, hbW.setCell hws _⟩
    rw [← HE2.out, ← HO'.out]
    simpa using HB.out.set 0 (.int .i64 ((o : Int) + ((len : Int) - 1)))
  case done =>
    rintro W ⟨hB, hbW⟩ hD
    have hle := exTo_le HV.out (cyc p).length (Nat.le_refl _)
    have hc7 := cyc_count HV.out
    obtain ⟨E, hE⟩ : ∃ E, E = exTo p (cyc p).length := ⟨_, rfl⟩
    rw [← hE] at hB hle
    have HE := Lib.hid hE
    have hc : W.cell? ⟨w1.heap.size, 0, none⟩ = some (.int .i64 E) := by simpa using hB.cell 0
    have hDl : W2.heap.size < W.heap.size := (Array.getElem?_eq_some_iff.1 hD).1
    have HB := Lib.hid hB
    have HSZ := Lib.hid hsz
    clear hB hsz hE
    gi_wp2
    refine ⟨by simp, .inl ⟨_, _, rfl, run_takeDeferred hD, ?_⟩⟩
    refine ⟨_, results_tmp rfl _ _ _, ?_, below_turns hbW (Turns.putObj (priv := fun b => b = W2.heap.size) _ _ _ rfl) (fun b hb => by have := HSZ.out; omega) (Nat.le_refl _)⟩
    exact ret_int (by unfold parL; rw [← HE.out]; exact (Int.natCast_emod E 2).symm)
  case stop =>
    rintro c k W hk h _
    exact h.elim
end Go.Proofs.Ytcnkegcogepimaa
