/- perm.firstFree, by its meaning. -/
import Derived.Test.YtcnkegcogepimaaProg
import Derived.Test.YtcnkegcogepimaaBase
import Derived.Test.YtcnkegcogepimaaLists
import Derived.Test.YtcnkegcogepimaaCycL
import Derived.Test.YtcnkegcogepimaaValid
import Derived.Test.YtcnkegcogepimaaNums
import Derived.Test.YtcnkegcogepimaaRange
import Derived.Test.YtcnkegcogepimaaIter
import Derived.Test.YtcnkegcogepimaaCycs
import Derived.Test.YtcnkegcogepimaaConjL
import Derived.Shelf.Abstract
import Derived.OwnWalkIn
import Derived.TacticsInMore
import Derived.LoopNIn
import Derived.LoopIn
namespace Go.Proofs.Ytcnkegcogepimaa
open Go.RowKit Go.Shelf
attribute [local go_sem] Oper.semAt_some

theorem pk_eq {q : List Int} {m : Nat} {us : List Int} {k : Nat} (hk : k < (cyc q).length) (hs : (((cyc q).getD k []).length == m && !(us.contains ((st q k : Nat) : Int))) = true)
    (hf : ∀ i, i < k → (((cyc q).getD i []).length == m && !(us.contains ((st q i : Nat) : Int))) = false) : pk q m us = some k := by
  rcases hpk : pk q m us with _ | j
  · have h := hpk
    unfold pk at h
    exact absurd hs (List.find?_eq_none.1 h k (List.mem_range.2 hk))
  · have h := hpk
    unfold pk at h
    have h0 := List.find?_some h
    rcases Nat.lt_trichotomy j k with l | l | l
    · have := hf j l
      rw [this] at h0
      cases h0
    · rw [l]
    · have h4 := (pk_some hpk).2.2.2 k l
      simp only [Bool.and_eq_true, beq_iff_eq, Bool.not_eq_true', List.contains_eq_mem, decide_eq_false_iff_not] at hs
      exact absurd (h4 (by rw [← cyc_length hk]; exact hs.1)) hs.2
theorem pk_no {q : List Int} {m : Nat} {us : List Int} (hf : ∀ i, i < (cyc q).length → (((cyc q).getD i []).length == m && !(us.contains ((st q i : Nat) : Int))) = false) : pk q m us = none := by
  unfold pk
  refine List.find?_eq_none.2 (fun j hj => ?_)
  rw [hf j (List.mem_range.1 hj)]
  simp

theorem res_cell {fn : Func} {p : Tmp} (h : fn.results = #[.cell p 22]) (tmps : Array Value) (W : World) (b : Nat) (r : Value) (hp : tmps.getD p undef = .pointer (some ⟨b, 0, none⟩)) (hc : W.cell? ⟨b, 0, none⟩ = some r) :
    (results fn tmps).run Try.prog W = .ok r W := by
  have hp' : tmps[p]?.getD undef = .pointer (some ⟨b, 0, none⟩) := by simpa using hp
  simp [results, h, hp', asAddr, loadVar, isAgg, run_underlying Try.underlying22, go_sem, hc]

/-- what firstFree hands over -/
def pkOut (q : List Int) (B : Nat) (w' : World) (r : Value) : Option Nat → Prop
  | none => r = .slice none 0 0
  | some j => Ow B w' r (cyL q (st q j))

set_option maxRecDepth 100000 in
set_option maxHeartbeats 1000000 in
theorem free_any (v : Value) (q : List Int) (m : Nat) (us : List Int) (w : World) (h : Sl w v q) (hv : validL q = true) :
    Calls Try.prog 58 #[v, .int .i64 m, .agg (mk us)] w fun e w' => ∃ r, e = .returned r ∧ pkOut q w.heap.size w' r (pk q m us) ∧ Below w.heap.size w w' := by
  have HS := Lib.hid h
  obtain ⟨a, ca, rfl, _⟩ := h
  refine (callsIn_wide (n := 3)).1 ?_
  have hv7 := ((validL_iff q).1 hv).2.1
  have hx : q.length ≤ 1000000 := by omega
  have HV := Lib.hid hv
  refine callsIn_of_wp_marks Try.func58 rfl trivial ?_ rfl
  simp only [Try.ntmps58, List.size_toArray, List.length_cons, List.length_nil, Nat.reduceAdd, Nat.reduceSub, Array.replicate_succ, Array.replicate_zero, List.push_toArray, List.append_toArray, List.nil_append, List.cons_append]
  clear hv
  gi_wp2_with (refine ⟨trivial, ?_⟩; gi_at_call 51; refine (callsIn_wide.2 (cycles_any _ _ _ _)).mono ?_; rintro e w2 ⟨rfl, rfl⟩)
  obtain ⟨s, hs0⟩ : ∃ s, s = w.heap.size := ⟨_, rfl⟩
  obtain ⟨W2, hW2⟩ : ∃ W2, W2 = (((w.alloc (Obj.cells #[Value.int IntKind.i64 m] 3)).alloc (Obj.cells (mk us) 63)).alloc (Obj.cells #[Value.slice none 0 0] 22)).alloc (Obj.cells #[Value.slice a q.length ca] 23) := ⟨_, rfl⟩
  have hsz : W2.heap.size = s + 4 := by rw [hW2, hs0]; simp
  have n1 := Blk.new w 3 #[Value.int .i64 m]
  have n2 := Blk.new (w.alloc (Obj.cells #[Value.int IntKind.i64 m] 3)) 63 (mk us)
  have n3 := Blk.new ((w.alloc (Obj.cells #[Value.int IntKind.i64 m] 3)).alloc (Obj.cells (mk us) 63)) 22 #[Value.slice none 0 0]
  have n4 := Blk.new (((w.alloc (Obj.cells #[Value.int IntKind.i64 m] 3)).alloc (Obj.cells (mk us) 63)).alloc (Obj.cells #[Value.slice none 0 0] 22)) 23 #[Value.slice a q.length ca]
  rw [← hW2] at n4
  have hB1 : Blk W2 s 3 #[.int .i64 m] := by rw [hW2, hs0]; exact ((n1.alloc _).alloc _).alloc _
  have hB2 : Blk W2 (s + 1) 63 (mk us) := by rw [hW2, hs0]; have := (n2.alloc (Obj.cells #[Value.slice none 0 0] 22)).alloc (Obj.cells #[Value.slice a q.length ca] 23); rwa [World.size_alloc] at this
  have hB3 : Blk W2 (s + 2) 22 #[.slice none 0 0] := by rw [hW2, hs0]; have := n3.alloc (Obj.cells #[Value.slice a q.length ca] 23); rwa [World.size_alloc, World.size_alloc] at this
  have hB4 : Blk W2 (s + 3) 23 #[.slice a q.length ca] := by rw [hs0]; rwa [World.size_alloc, World.size_alloc, World.size_alloc] at n4
  have hb2 : Below s w W2 := by rw [hW2, hs0]; exact ((((Below.refl _ w).alloc (Nat.le_refl _) _).alloc (by simp) _).alloc (by simp; omega) _).alloc (by simp; omega) _
  rw [← hW2, ← hs0]
  have HS0 := Lib.hid hs0
  clear hW2 n1 n2 n3 n4 hs0
  refine wpIn_range_idx (m := 1) (gf := 61) (lb := #[.pointer (some ⟨s + 3, 0, none⟩)]) rfl (enters_of Try.func61 (by kernel_rfl) rfl)
    (N := (cyc q).length) (item := cyItem q (W2.heap.size + 2)) (priv := fun b => b = W2.heap.size + 2) (keep := cyKeep s (s + 3) (W2.heap.size + 2))
    (fun W hbW hsW => by
      have := iter_seq s (s + 3) (.slice a q.length ca) q HV.out W (hB4.below hbW) (by omega) (SlUp.of_below HS.out HS0.out (hb2.trans (hbW.mono (by omega))))
      rw [hsW] at this
      exact this)
    (fun b hb => by omega) (fun h k => h.trans k) (fun W o => cyKeep.putObj W o (by omega) (by omega) (by omega))
    (fun k vs W hi => by obtain ⟨v, rfl, _⟩ := hi; rfl) (fun k vs W o hs hi => cyItem.putObj o hi (by omega))
    (fun k W => ((Blk W s 3 #[.int .i64 m] ∧ Blk W (s + 1) 63 (mk us) ∧ Blk W (s + 2) 22 #[.slice none 0 0]) ∧ Hid (∀ i, i < k → (((cyc q).getD i []).length == m && !(us.contains ((st q i : Nat) : Int))) = false)) ∧ Below s w W)
    (fun c k W => c = .ret ∧ (∃ r, Blk W (s + 2) 22 #[r] ∧ Ow (s + 7) W r ((cyc q).getD k [])) ∧ Hid (pk q m us = some k) ∧ Below s w W)
    (fun k A B hI ht => by
      obtain ⟨⟨⟨h1, h2, h3⟩, h4⟩, h5⟩ := hI
      exact ⟨⟨⟨h1.turns ht (by omega), h2.turns ht (by omega), h3.turns ht (by omega)⟩, h4⟩, below_turns h5 ht (fun b hb => by omega) (by have := HS0.out; omega)⟩)
    (fun c k A B hI ht => by
      obtain ⟨h0, ⟨r, h1, h2⟩, h3, h4⟩ := hI
      exact ⟨h0, ⟨r, h1.turns ht (by omega), h2.turns ht (fun g hg => by have := (h2.lt g hg).1; omega)⟩, h3, below_turns h4 ht (fun b hb => by omega) (by have := HS0.out; omega)⟩)
    ⟨⟨⟨hB1, hB2, hB3⟩, Lib.hid (fun i hi => by omega)⟩, hb2⟩
    (fun vs => { tmps := #[.slice a q.length ca, .int .i64 m, .agg (mk us), undef, .pointer (some ⟨s, 0, none⟩), .pointer (some ⟨s + 1, 0, none⟩), .pointer (some ⟨s + 2, 0, none⟩), vs.getD 0 undef, .slice a q.length ca, .func (.func 61) #[] #[.pointer (some ⟨s + 3, 0, none⟩)], vs.getD 0 undef, undef, undef, undef, undef, undef, undef, undef, undef, undef, undef, undef, undef, undef], defers := [] }) ?assign ?body ?done ?stop
  case assign =>
    rintro l k vs W K ⟨v, rfl, _⟩ hK
    gi_wp2
    exact hK
  case body =>
    rintro l k vs W hk ⟨⟨⟨h1, h2, h3⟩, h4⟩, hbW⟩ ⟨v, rfl, hO, hsW⟩ hs2
    have hlen := cyc_length hk
    have hstq := (st_spec hk).1
    have hst7 : st q k < 7 := by omega
    have hhead : ((cyc q).getD k []).getD 0 0 = ((st q k : Nat) : Int) := by
      rw [(st_spec hk).2.1, cyL_get (by have := per_pos q (st q k); omega)]
      rfl
    have hpos := per_pos q (st q k)
    rw [← hlen] at hpos
    have HO := Lib.hid hO
    obtain ⟨a2, c2, rfl, hc⟩ := hO.sl
    rcases hc with hc | ⟨b2, o2, rfl, hc⟩
    · rw [hc] at hpos; exact absurd hpos (by simp)
    have g0 := hc 0 hpos
    rw [hhead, Nat.add_zero] at g0
    have H1 := Lib.hid h1
    have H2 := Lib.hid h2
    have H3 := Lib.hid h3
    have k1 : W.cell? ⟨s, 0, none⟩ = some (.int .i64 m) := by simpa using h1.cell 0
    have k2 : W.cell? ⟨s + 1, st q k, none⟩ = some (.bool (decide (((st q k : Nat) : Int) ∈ us))) := by rw [h2.cell, mk_get _ _ hst7]
    have k3 : W.cell? ⟨s + 2, 0, none⟩ = some (.slice none 0 0) := by simpa using h3.cell 0
    have f3 := h3.free 0
    obtain ⟨L, hL⟩ : ∃ L, L = (cyc q).getD k [] := ⟨_, rfl⟩
    obtain ⟨t, ht⟩ : ∃ t, t = st q k := ⟨_, rfl⟩
    rw [← hL] at HO hpos ⊢
    rw [← ht] at hst7 g0 k2
    have HL := Lib.hid hL
    have HT := Lib.hid ht
    have hsel : Hid ((((cyc q).getD k []).length == m && !(us.contains ((st q k : Nat) : Int))) = (decide (L.length = m) && !(decide ((t : Int) ∈ us)))) := Lib.hid (by
      rw [← hL, ← ht, List.contains_eq_mem]
      by_cases e : L.length = m <;> simp [e])
    clear hlen hstq hhead h1 h2 h3 hc hL ht hO
    by_cases hm : L.length = m
    · have hme : ((L.length : Int) == (m : Int)) = true := by simp [hm]
      by_cases hu : (t : Int) ∈ us
      · rw [decide_eq_true hu] at k2
        have hs3 := hsel.out
        rw [decide_eq_true hu, Bool.not_true, Bool.and_false] at hs3
        have HS3 := Lib.hid hs3
        clear hs3 hm hu
        gi_wp2
        refine ⟨⟨rfl, rfl⟩, cyKeep.refl W, ⟨⟨H1.out, H2.out, H3.out⟩, Lib.hid (fun i hi => ?_)⟩, hbW⟩
        by_cases e : i = k
        · subst e; exact HS3.out
        · exact h4.out i (by omega)
      · rw [decide_eq_false hu] at k2
        have hs3 := hsel.out
        rw [decide_eq_false hu, decide_eq_true hm] at hs3
        have HP : Hid (pk q m us = some k) := Lib.hid (pk_eq hk (by rw [hs3]; rfl) h4.out)
        clear hs3 hm hu
        gi_wp2
        refine ⟨⟨Below.heap_setCell _ _ _ _ (by show _ ≠ s + 2; omega), Below.heap_setCell _ _ _ _ (by show _ ≠ s + 2; omega)⟩, rfl, ⟨_, H3.out.set 0 _, ?_⟩, HP, hbW.setCell (by show s ≤ s + 2; omega) _⟩
        rw [← HL.out]
        exact (HO.out.turns (priv := fun b => b = s + 2) ((Turns.refl _ _).setCell _ _ _ rfl) (fun g hg => by have := (HO.out.lt g hg).1; omega)).mono (by omega)
    · have hme : ((L.length : Int) == (m : Int)) = false := by simp; omega
      have hs3 := hsel.out
      rw [decide_eq_false hm, Bool.false_and] at hs3
      have HS3 := Lib.hid hs3
      clear hs3 hm
      gi_wp2
      refine ⟨⟨rfl, rfl⟩, cyKeep.refl W, ⟨⟨H1.out, H2.out, H3.out⟩, Lib.hid (fun i hi => ?_)⟩, hbW⟩
      by_cases e : i = k
      · subst e; exact HS3.out
      · exact h4.out i (by omega)
  case done =>
    rintro W ⟨⟨⟨h1, h2, h3⟩, h4⟩, hbW⟩ hD
    have k3 : W.cell? ⟨s + 2, 0, none⟩ = some (.slice none 0 0) := by simpa using h3.cell 0
    have f3 := h3.free 0
    have hDl : W2.heap.size < W.heap.size := (Array.getElem?_eq_some_iff.1 hD).1
    have HP : Hid (pk q m us = none) := Lib.hid (pk_no h4.out)
    have H3 := Lib.hid h3
    clear h1 h2 h3
    gi_wp2
    have hD2 : (W.setCell ⟨s + 2, 0, none⟩ (.slice none 0 0)).heap[W2.heap.size]? = some (.deferred (some [])) := (Below.heap_setCell _ _ _ _ (by show _ ≠ s + 2; omega)).trans hD
    refine ⟨by simp, .inl ⟨_, _, rfl, run_takeDeferred hD2, ?_⟩⟩
    refine ⟨_, res_cell rfl _ _ (s + 2) (.slice none 0 0) rfl ?_, _, rfl, ?_, ?_⟩
    · have hB := (H3.out.set 0 (.slice none 0 0)).turns (Turns.putObj (priv := fun b => b = W2.heap.size) _ _ (.deferred none) rfl) (by omega)
      simpa using hB.cell 0
    · rw [HP.out]; rfl
    · rw [← HS0.out]
      exact below_turns (hbW.setCell (by show s ≤ s + 2; omega) _) (Turns.putObj (priv := fun b => b = W2.heap.size) _ _ _ rfl) (fun b hb => by omega) (by have := HS0.out; omega)
  case stop =>
    rintro c k W hk ⟨rfl, ⟨r, h1, h2⟩, h3, h4⟩ hD
    have k3 : W.cell? ⟨s + 2, 0, none⟩ = some r := by simpa using h1.cell 0
    gi_wp2
    refine ⟨by simp, .inl ⟨_, _, rfl, run_takeDeferred hD, ?_⟩⟩
    refine ⟨_, res_cell rfl _ _ (s + 2) r rfl ?_, _, rfl, ?_, ?_⟩
    · have hB := h1.turns (Turns.putObj (priv := fun b => b = W2.heap.size) _ _ (.deferred none) rfl) (by omega)
      simpa using hB.cell 0
    · rw [h3.out, ← HS0.out]
      have := (h2.turns (Turns.putObj (priv := fun b => b = W2.heap.size) _ _ (.deferred none) rfl) (fun g hg => by have := (h2.lt g hg).1; omega)).mono (B' := s) (by omega)
      rw [(st_spec hk).2.1] at this
      exact this
    · rw [← HS0.out]
      exact below_turns h4 (Turns.putObj (priv := fun b => b = W2.heap.size) _ _ _ rfl) (fun b hb => by omega) (by have := HS0.out; omega)
end Go.Proofs.Ytcnkegcogepimaa
