/- perm.Cycles returns the cycles of at least two points in new memory. -/
import Derived.Test.YtcnkegcogepimaaDoorCycs
namespace Go.Proofs.YtcnkegcogepimaaDoor
open Go.RowKit Go.Shelf
attribute [local go_sem] Oper.semAt_some

def longTo (p : List Int) (k : Nat) : List (List Int) := ((cyc p).take k).filter fun c => decide (1 < c.length)
def longL (p : List Int) : List (List Int) := (cyc p).filter fun c => decide (1 < c.length)
theorem longTo_succ (p : List Int) (k : Nat) (hk : k < (cyc p).length) : longTo p (k + 1) = if 1 < ((cyc p).getD k []).length then longTo p k ++ [(cyc p).getD k []] else longTo p k := by
  unfold longTo
  rw [List.take_succ_eq_append_getElem hk, List.filter_append]
  have e : (cyc p).getD k [] = (cyc p)[k] := by simp [hk]
  rw [e]
  by_cases h : 1 < (cyc p)[k].length <;> simp [h]
theorem longTo_all (p : List Int) : longTo p (cyc p).length = longL p := by unfold longTo longL; rw [List.take_length]
theorem longTo_le (p : List Int) (k : Nat) : (longTo p k).length ≤ k := Nat.le_trans (List.length_filter_le _ _) (List.length_take_le _ _)

theorem after_push {W w3 : World} {bL B : Nat} {r : Value} {tmp : Obj} (hB : Blk W bL 44 #[r]) (hne : ∀ g, r.ownBlock = some g → B ≤ g) (hg : (W.alloc tmp).grownBy w3 r.ownBlock) (hlt : bL < B) :
    w3.cell? ⟨bL, 0, none⟩ = some r ∧ w3.frozen? ⟨bL, 0, none⟩ = false ∧ Blk w3 bL 44 #[r] ∧ Turns (fun b => B ≤ b) W w3 ∧ W.heap.size ≤ w3.heap.size := by
  have hb3 : Blk w3 bL 44 #[r] := (hg.block bL (by have := hB.lt; simp; omega) (fun h => by have := hne bL h.symm; omega)).trans (hB.alloc tmp)
  have hz := hg.size
  simp at hz
  refine ⟨by simpa using hb3.cell 0, hb3.free 0, hb3, ?_, by omega⟩
  refine (Turns.alloc W tmp).trans ⟨hg.os, hg.tape, hg.output, hg.size, fun k hk hp => hg.block k hk (fun h => hp (hne k h.symm))⟩

set_option maxHeartbeats 400000 in
theorem cycles_no (v : Value) (p : List Int) (w : World) (h : Sl w v p) (hx : p.length ≤ 1000000) (hv : validL p = false) :
    Calls Tryd.prog 24 #[v] w fun e w' => e = .returned (.slice none 0 0) ∧ Below w.heap.size w w' := by
  have HS := Lib.hid h
  obtain ⟨a, ca, rfl, _⟩ := h
  have HV := Lib.hid hv
  clear hv
  go_enter Tryd.func24, Tryd.ntmps24
  go_wp2_with (go_at_call 23; refine (valid_any _ p _ HS.out hx).mono ?_; rintro e w1 ⟨rfl, hb⟩; rw [HV.out])
  go_ret
  exact ⟨rfl, hb⟩

set_option maxRecDepth 100000 in
set_option maxHeartbeats 1000000 in
theorem cycles_yes (v : Value) (p : List Int) (w : World) (h : Sl w v p) (hv : validL p = true) :
    Calls Tryd.prog 24 #[v] w fun e w' => ∃ r, e = .returned r ∧ Ows w.heap.size w' r (longL p) ∧ Below w.heap.size w w' := by
  have HS := Lib.hid h
  obtain ⟨a, ca, rfl, _⟩ := h
  obtain ⟨i0, hi, hz0, hz1, hz2⟩ := info_parts infoInts
  refine (callsIn_wide (n := 3)).1 ?_
  have hv7 := ((validL_iff p).1 hv).2.1
  have hx : p.length ≤ 1000000 := by omega
  have HV := Lib.hid hv
  refine callsIn_of_wp_marks Tryd.func24 rfl trivial ?_ rfl
  simp only [Tryd.ntmps24, List.size_toArray, List.length_cons, List.length_nil, Nat.reduceAdd, Nat.reduceSub, Array.replicate_succ, Array.replicate_zero, List.push_toArray, List.append_toArray, List.nil_append, List.cons_append]
  clear hv
  gi_wp2_with (first | (refine ⟨trivial, ?_⟩; gi_at_call 23; refine (callsIn_wide.2 (valid_any _ p _ HS.out hx)).mono ?_; rintro e w1 ⟨rfl, hb⟩; rw [HV.out]) | (refine ⟨trivial, ?_⟩; gi_at_call 38; refine (callsIn_wide.2 (cycles_any _ _ _ _)).mono ?_; rintro e w2 ⟨rfl, rfl⟩))
  obtain ⟨W2, hW2⟩ : ∃ W2, W2 = (w1.alloc (.cells #[.slice none 0 0] 44)).alloc (.cells #[.slice a p.length ca] 23) := ⟨_, rfl⟩
  have hsz : W2.heap.size = w1.heap.size + 2 := by rw [hW2]; simp
  have hB1 : Blk W2 w1.heap.size 44 #[.slice none 0 0] := by rw [hW2]; exact (Blk.new _ _ _).alloc _
  have hB2 : Blk W2 (w1.heap.size + 1) 23 #[.slice a p.length ca] := by
    rw [hW2]; have := Blk.new (w1.alloc (.cells #[.slice none 0 0] 44)) 23 #[.slice a p.length ca]
    rwa [World.size_alloc] at this
  have hb2 : Below w.heap.size w W2 := by rw [hW2]; exact (hb.alloc hb.size _).alloc (by have := hb.size; simp; omega) _
  have hws : w.heap.size ≤ w1.heap.size := hb.size
  rw [← hW2]
  clear hW2
  refine wpIn_range_idx (m := 1) (gf := 43) (lb := #[.pointer (some ⟨w1.heap.size + 1, 0, none⟩)]) rfl (enters_of Tryd.func43 (by kernel_rfl) rfl)
    (N := (cyc p).length) (item := cyItem p (W2.heap.size + 2)) (priv := fun b => b = W2.heap.size + 2) (keep := cyKeep w.heap.size (w1.heap.size + 1) (W2.heap.size + 2))
    (fun W hbW hsW => by
      have := iter_seq w.heap.size (w1.heap.size + 1) (.slice a p.length ca) p HV.out W (hB2.below hbW) (by omega) (SlUp.of_below HS.out rfl (hb2.trans (hbW.mono (by omega))))
      rw [hsW] at this
      exact this)
    (fun b hb => by omega) (fun h k => h.trans k) (fun W o => cyKeep.putObj W o (by omega) (by omega) (by omega))
    (fun k vs W hi => by obtain ⟨v, rfl, _⟩ := hi; rfl) (fun k vs W o hs hi => cyItem.putObj o hi (by omega))
    (fun k W => (∃ r, Blk W w1.heap.size 44 #[r] ∧ Ows (W2.heap.size + 3) W r (longTo p k)) ∧ Below w.heap.size w W)
    (fun _ _ _ => False)
    (fun k A B hI ht => by
      obtain ⟨⟨r, h1, h2⟩, h3⟩ := hI
      exact ⟨⟨r, h1.turns ht (by omega), h2.turns ht (fun b hb => by omega)⟩, below_turns h3 ht (fun b hb => by omega) (Nat.le_refl _)⟩)
    (fun _ _ _ _ h _ => h)
    ⟨⟨_, hB1, Ows.nil _ _⟩, hb2⟩
    (fun vs => { tmps := #[.slice a p.length ca, undef, .slice none 0 0, .pointer (some ⟨w1.heap.size, 0, none⟩), vs.getD 0 undef, .slice a p.length ca, .bool true, .bool false, .slice a p.length ca, .func (.func 43) #[] #[.pointer (some ⟨w1.heap.size + 1, 0, none⟩)], vs.getD 0 undef, undef, undef, undef, undef, undef, undef, undef, undef], defers := [] }) ?assign ?body ?done ?stop
  case assign =>
    rintro l k vs W K ⟨v, rfl, _⟩ hK
    gi_wp2
    exact hK
  case body =>
    rintro l k vs W hk ⟨⟨r, hB, hOs⟩, hbW⟩ ⟨v, rfl, hO, hsW⟩ hs2
    obtain ⟨l1, l7⟩ := cyc_len HV.out hk
    have hk7 := cyc_count HV.out
    have hls := longTo_succ p k hk
    have hll := longTo_le p k
    have HO := Lib.hid hO
    obtain ⟨a2, c2, rfl, _⟩ := hO.sl
    clear hO
    have hc : W.cell? ⟨w1.heap.size, 0, none⟩ = some r := by simpa using hB.cell 0
    have hf := hB.free 0
    have HB := Lib.hid hB
    obtain ⟨ws, s1, s2, s3⟩ := hOs
    have S3 := Lib.hid s3
    have S1 := Lib.hid s1
    have hwl : ws.length ≤ 7 := by omega
    have hBne : ∀ g, r.ownBlock = some g → W2.heap.size + 3 ≤ g := fun g h => (s2.lt g h).1
    have HBne := Lib.hid hBne
    clear hB s3 s1 hBne
    by_cases hlong : 1 < ((cyc p).getD k []).length
    · rw [if_pos hlong] at hls
      have HLS := Lib.hid hls
      clear hls
      generalize ((cyc p).getD k []) = c at *
      have HL1 := Lib.hid hlong
      have hdl : decide ((1 : Int) < (c.length : Int)) = true := by simp; omega
      clear hlong
      gi_wp2_with (gi_at_builtin; refine wpListIn_append_own _ rfl _ _ 44 rfl (W2.heap.size + 3) 22 i0 (.slice none 0 0) 1 24 Tryd.underlying44 hi hz0 hz1 hz2 rfl (by decide) _ _ _ rfl (s2.alloc _) ⟨W.heap.size, 0, none⟩ 1 1 [.slice a2 c.length c2] rfl rfl (cell_one_new _ _ _) (by simp [Value.oneCell']) (by unfold maxLen; omega) (by omega) (by simp; omega) ?_; intro v' w3 hown' hgrow _; obtain ⟨g', cap', rfl⟩ := ownsRow_succ hown'; have hfacts := after_push HB.out HBne.out hgrow (by omega); have hc3 := hfacts.1; have hf3 := hfacts.2.1)
      obtain ⟨_, _, hb3, ht3, hz3⟩ := hfacts
      have HOs := Lib.hid (Ows.push S1.out s2 S3.out HO.out hown' hgrow)
      have hsame : ∀ b, b < W2.heap.size + 3 → b ≠ w1.heap.size → b < W.heap.size → ∀ u, (w3.setCell ⟨w1.heap.size, 0, none⟩ u).heap[b]? = W.heap[b]? := fun b h1 h2 h3 u => (Below.heap_setCell _ _ _ _ h2).trans (ht3.block b h3 (by omega))
      refine ⟨⟨hsame _ (by omega) (by omega) (by omega) _, hsame _ (by omega) (by omega) (by omega) _⟩, ⟨by simp; omega, fun b hb => ?_⟩, ⟨_, hb3.set 0 _, ?_⟩, ?_⟩
      · by_cases h3 : b < W.heap.size
        · exact hsame b (by omega) (by omega) h3 _
        · omega
      · rw [HLS.out]
        exact HOs.out.turns (priv := fun b => b = w1.heap.size) ((Turns.refl _ _).setCell _ _ _ rfl) (fun b hb => by omega)
      · exact (below_turns hbW ht3 (fun b hb => by omega) (Nat.le_refl _)).setCell hws _
    · rw [if_neg hlong] at hls
      have HLS := Lib.hid hls
      have HL1 := Lib.hid hlong
      clear hls
      generalize ((cyc p).getD k []) = c at *
      have hdl : decide ((1 : Int) < (c.length : Int)) = false := by simp; omega
      have HOs : Hid (Ows (W2.heap.size + 3) W r (longTo p (k + 1))) := Lib.hid (by rw [HLS.out]; exact ⟨ws, S1.out, s2, S3.out⟩)
      clear hlong
      gi_wp2
      exact ⟨⟨rfl, rfl⟩, cyKeep.refl W, ⟨_, HB.out, HOs.out⟩, hbW⟩
  case done =>
    rintro W ⟨⟨r, hB, hOs⟩, hbW⟩ hD
    have hc : W.cell? ⟨w1.heap.size, 0, none⟩ = some r := by simpa using hB.cell 0
    have hDl : W2.heap.size < W.heap.size := (Array.getElem?_eq_some_iff.1 hD).1
    have HB := Lib.hid hB
    have HSZ := Lib.hid hsz
    rw [longTo_all] at hOs
    have HOs := Lib.hid hOs
    clear hB hsz hOs
    gi_wp2
    refine ⟨by simp, .inl ⟨_, _, rfl, run_takeDeferred hD, ?_⟩⟩
    exact ⟨_, results_tmp rfl _ _ _, r, rfl, (HOs.out.turns (Turns.putObj (priv := fun b => b = W2.heap.size) _ _ _ rfl) (fun b hb => by omega)).mono (by have := HSZ.out; omega), below_turns hbW (Turns.putObj (priv := fun b => b = W2.heap.size) _ _ _ rfl) (fun b hb => by have := HSZ.out; omega) (Nat.le_refl _)⟩
  case stop =>
    rintro c k W hk h _
    exact h.elim
end Go.Proofs.YtcnkegcogepimaaDoor
