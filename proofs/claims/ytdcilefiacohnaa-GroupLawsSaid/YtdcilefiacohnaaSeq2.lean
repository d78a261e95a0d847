/- AppendSeq, Collect and SortedFunc over slices.Values' iterator at elements; sorted. -/
import Derived.Test.YtdcilefiacohnaaSeq
import Derived.Test.YtdcilefiacohnaaSrt2
namespace Go.Proofs.Ytdcilefiacohnaa
open Go Go.RowKit Go.Shelf
attribute [local go_sem] Oper.semAt_some

theorem after_append {W w3 : World} {bL B : Nat} {r : Value} {tmp : Obj} (hB : Blk W bL 72 #[r]) (hne : ∀ g, r.ownBlock = some g → B ≤ g) (hg : (W.alloc tmp).grownBy w3 r.ownBlock) (hlt : bL < B) :
    w3.cell? ⟨bL, 0, none⟩ = some r ∧ w3.frozen? ⟨bL, 0, none⟩ = false ∧ Blk w3 bL 72 #[r] ∧ Turns (fun b => B ≤ b) W w3 ∧ W.heap.size ≤ w3.heap.size := by
  have hb3 : Blk w3 bL 72 #[r] := (hg.block bL (by have := hB.lt; simp; omega) (fun h => by have := hne bL h.symm; omega)).trans (hB.alloc tmp)
  have hz := hg.size
  simp at hz
  refine ⟨by simpa using hb3.cell 0, hb3.free 0, hb3, ?_, by omega⟩
  refine (Turns.alloc W tmp).trans ⟨hg.os, hg.tape, hg.output, hg.size, fun k hk hp => hg.block k hk (fun h => hp (hne k h.symm))⟩
theorem Oel.mono {B B' : Nat} {w : World} {v : Value} {L : List (List Int)} (h : Oel B w v L) (hB : B' ≤ B) : Oel B' w v L := by
  refine ⟨h.1, ?_⟩
  rcases h.2 with h | ⟨g, cap, cur, h1, h2, h3⟩
  · exact .inl h
  · exact .inr ⟨g, cap, cur, h1, Nat.le_trans hB h2, h3⟩
theorem row_succ {B size n : Nat} {e : TypeId} {w : World} {v : Value} {xs : List Value} (h : w.ownsRow B e size v (n + 1) xs) : ∃ g cap, v = .slice (some ⟨g, 0, none⟩) (n + 1) cap := by
  rcases h.2 with ⟨_, h0⟩ | ⟨g, cap, _, h0, _⟩
  · omega
  · exact ⟨g, cap, h0⟩
theorem take_snoc {L : List (List Int)} {k : Nat} (h : k < L.length) : L.take (k + 1) = L.take k ++ [L.getD k []] := by
  rw [List.take_succ_eq_append_getElem h]; simp [h]

set_option maxRecDepth 100000 in
set_option maxHeartbeats 2000000 in
theorem appendSeq_any (bp g cap B : Nat) (L : List (List Int)) (w : World) (hbp : Blk w bp 72 #[.slice (some ⟨g, 0, none⟩) L.length cap])
    (hO : Oel B w (.slice (some ⟨g, 0, none⟩) L.length cap) L) (hE : ∀ x ∈ L, E7 x) (hl : L.length ≤ 900000) :
    Calls Try.prog 101 #[.slice none 0 0, .func (.func 97) #[] #[.pointer (some ⟨bp, 0, none⟩)]] w fun e w' => ∃ v, e = .returned v ∧ Oel w.heap.size w' v L ∧ Below w.heap.size w w' := by
  obtain ⟨i0, hi, hz0, hz1, hz2⟩ := info_parts infoEl
  have hg : g < w.heap.size := (World.ownsRow.lt hO g rfl).2
  have HE := Lib.hid hE
  have HO := Lib.hid hO
  have HP := Lib.hid hbp
  clear hE hO hbp
  refine (callsIn_wide (n := 3)).1 ?_
  refine callsIn_of_wp_marks Try.func101 rfl trivial ?_ rfl
  simp only [Try.ntmps101, List.size_toArray, List.length_cons, List.length_nil, Nat.reduceAdd, Nat.reduceSub, Array.replicate_succ, Array.replicate_zero, List.push_toArray, List.append_toArray, List.nil_append, List.cons_append]
  gi_wp2
  obtain ⟨W2, hW2⟩ : ∃ W2, W2 = w.alloc (.cells #[.slice none 0 0] 72) := ⟨_, rfl⟩
  have hsz : W2.heap.size = w.heap.size + 1 := by rw [hW2]; simp
  have hB1 : Blk W2 w.heap.size 72 #[.slice none 0 0] := by rw [hW2]; exact Blk.new _ _ _
  have hb2 : Below w.heap.size w W2 := by rw [hW2]; exact (Below.refl _ w).alloc (Nat.le_refl _) _
  rw [← hW2]
  clear hW2
  obtain ⟨s, hs⟩ : ∃ s, s = w.heap.size := ⟨_, rfl⟩
  have hs' := hs.symm
  rw [← hs] at hsz hB1 hb2 hg ⊢
  have HS := Lib.hid hs
  clear hs hs'
  refine wpIn_range_as (m := 1) (gf := 97) (lb := #[.pointer (some ⟨bp, 0, none⟩)]) rfl (enters_of Try.func97 (by kernel_rfl) rfl)
    (N := L.length) (item := elItem L) (priv := fun _ => False) (keep := seqKeep s)
    (fun W hbW hsW => by
      have hbW' : Below w.heap.size w W := (HS.out ▸ hb2).trans (hbW.mono (by have := HS.out; omega))
      exact values_seq s bp g cap B L W (HP.out.below hbW') (by omega) hg (HO.out.turns (Turns.of_below (priv := fun _ => False) hbW') (fun _ _ h => h)) HE.out hl)
    (fun b hb => hb.elim) (fun h k => h.trans k) (fun W o => seqKeep.putObj W o (by omega))
    (fun k vs W hi => by unfold elItem at hi; rw [hi]; rfl)
    (fun k _ a1 W => ∃ q, a1 = { tmps := #[.slice none 0 0, .func (.func 97) #[] #[.pointer (some ⟨bp, 0, none⟩)], .pointer (some ⟨s, 0, none⟩), undef, .slice none 0 0, .pointer (some ⟨q, 0, none⟩), .func (.func 97) #[] #[.pointer (some ⟨bp, 0, none⟩)], .agg (u8s (L.getD k [])), undef, undef, undef, undef, undef], defers := [] } ∧ Blk W q 78 (u8s (L.getD k [])) ∧ s + 3 ≤ q)
    (fun k vs a1 W o hlt h => by
      obtain ⟨q, h1, h2, h3⟩ := h
      exact ⟨q, h1, h2.turns (Turns.putObj (priv := fun b => b = W2.heap.size + 1) W _ o rfl) (by omega), h3⟩)
    (fun k W => (∃ r, Blk W s 72 #[r] ∧ Oel (s + 3) W r (L.take k)) ∧ Below s w W)
    (fun _ _ _ => False)
    (fun k A B hI ht => by
      obtain ⟨⟨r, h1, h2⟩, h3⟩ := hI
      exact ⟨⟨r, h1.turns ht (by simp; omega), h2.turns ht (fun b hb hq => by have := (World.ownsRow.lt h2 b hb).1; simp at hq; omega)⟩, below_turns h3 ht (fun b hb => by simp; omega) (by have := HS.out; omega)⟩)
    (fun _ _ _ _ h _ => h)
    ⟨⟨_, hB1, World.ownsRow_nil _ _ _ _⟩, hb2⟩ ?assign ?body ?done ?stop
  case assign =>
    rintro l k vs W K hk hs2 hit hK
    unfold elItem at hit
    subst hit
    have hEe : E7 (L.getD k []) := HE.out _ (getD_mem hk)
    obtain ⟨e, he⟩ : ∃ e, e = L.getD k [] := ⟨_, rfl⟩
    rw [← he] at hEe hK ⊢
    have HQ0 := Lib.hid (Blk.new W 78 zeros7)
    have HQ := Lib.hid (Blk.setRow HQ0.out (u8s e))
    have HBQ := Lib.hid (below_row ((Below.refl W.heap.size W).alloc (Nat.le_refl _) (.cells zeros7 78)) W.heap.size (u8s e) (Nat.le_refl _))
    have HK := Lib.hid hK
    have hE7 : Hid (e.length = 7) := Lib.hid hEe.1
    clear hK he hEe
    gi_wp2_with (refine wpListIn_store_el rfl 78 _ _ rfl W.heap.size (u8s e) rfl rfl 78 zeros7 HQ0.out (infoElem' hE7.out) (by rw [size_u8s, hE7.out]; rfl) (u8s_one e) ?_)
    exact HK.out _ _ ⟨W.heap.size, rfl, HQ.out, by omega⟩ (Turns.of_below HBQ.out) ⟨HBQ.out.size, fun b hb => HBQ.out.block b (by omega)⟩
  case body =>
    rintro l k vs a1 W hk ⟨⟨r, hB, hOs⟩, hbW⟩ ⟨q, rfl, hq, hq3⟩ hs2
    have hEe : E7 (L.getD k []) := HE.out _ (getD_mem hk)
    have hts := take_snoc hk
    obtain ⟨e, he⟩ : ∃ e, e = L.getD k [] := ⟨_, rfl⟩
    rw [← he] at hEe hq hts ⊢
    have hc : W.cell? ⟨s, 0, none⟩ = some r := by simpa using hB.cell 0
    have hf := hB.free 0
    have HB := Lib.hid hB
    have HQ := Lib.hid hq
    have HOs := Lib.hid hOs
    have HBW := Lib.hid hbW
    have HTS := Lib.hid hts
    have hE7 : Hid (e.length = 7) := Lib.hid hEe.1
    have HTL := Lib.hid (show (L.take k).length ≤ 900000 by rw [List.length_take]; omega)
    have HBne := Lib.hid (show ∀ g, r.ownBlock = some g → s + 3 ≤ g from fun g h => (World.ownsRow.lt hOs g h).1)
    have HNew := Lib.hid (Blk.new W 78 (u8s e))
    have HNews := Lib.hid (show ∀ j u, (e.map (Value.int .u8))[j]? = some u → (W.alloc (.cells (u8s e) 78)).cell? ((⟨W.heap.size, 0, none⟩ : Addr).add j) = some u from fun j u hu => by
      have e1 : (⟨W.heap.size, 0, none⟩ : Addr).add j = ⟨W.heap.size, j, none⟩ := by unfold Addr.add; split <;> simp_all
      rw [e1, HNew.out.cell j]; simpa [u8s] using hu)
    have HOnes := Lib.hid (show ∀ u ∈ e.map (Value.int .u8), u.oneCell' = true from fun u hu => by obtain ⟨y, _, rfl⟩ := List.mem_map.1 hu; rfl)
    clear hB hq hOs hbW hts he hEe
    gi_wp2_with (first
      | (refine wpListIn_load_el rfl 78 _ rfl q rfl 78 (u8s e) (0, 0) _ HQ.out Try.underlying78 rfl (infoElem' hE7.out) ?_)
      | (refine wpListIn_build_el rfl _ rfl e hE7.out rfl ?_)
      | (gi_at_builtin; refine wpListIn_append_own_at _ rfl _ _ 72 rfl (s + 3) 78 i0 (.agg zeros7) 7 7 Try.underlying72 hi hz0 hz1 hz2 rfl (by decide) _ _ _ rfl (World.ownsRow.alloc HOs.out _) ⟨W.heap.size, 0, none⟩ 1 1 (e.map (Value.int .u8)) rfl (by rw [List.length_map, hE7.out]) HNews.out HOnes.out (by have := HTL.out; unfold maxLen; omega) (by have := HTL.out; omega) (by simp; omega) ?_; intro v' w3 hown' hgrow _ _; obtain ⟨g', cap', rfl⟩ := row_succ hown'; have hfacts := after_append HB.out HBne.out hgrow (by omega); have hc3 := hfacts.1; have hf3 := hfacts.2.1; have HOwn := Lib.hid hown'; have HGrow := Lib.hid hgrow; have HFacts := Lib.hid hfacts; clear hown' hgrow hfacts))
    obtain ⟨_, _, hb3, ht3, hz3⟩ := HFacts.out
    have hsame : ∀ b, b < s + 3 → b ≠ s → b < W.heap.size → ∀ u, (w3.setCell ⟨s, 0, none⟩ u).heap[b]? = W.heap[b]? := fun b h1 h2 h3 u => (Below.heap_setCell _ _ _ _ h2).trans (ht3.block b h3 (by omega))
    have hO3 : Oel (s + 3) w3 (.slice (some ⟨g', 0, none⟩) ((L.take k).length + 1) cap') (L.take (k + 1)) := by
      unfold Oel
      rw [HTS.out, rowsV_snoc]
      simpa using HOwn.out
    refine ⟨⟨hsame _ (by omega) (by omega) (by omega) _, hsame _ (by omega) (by omega) (by omega) _⟩, ⟨by simp; omega, fun b hb => hsame b (by omega) (by omega) (by omega) _⟩, ⟨_, hb3.set 0 _, ?_⟩, ?_⟩
    · rw [List.length_take] at hO3
      exact hO3.turns (priv := fun b => b = s) ((Turns.refl _ _).setCell _ _ _ rfl) (fun b hb hq => by have := (World.ownsRow.lt hO3 b hb).1; omega)
    · exact (below_turns HBW.out ht3 (fun b hb => by omega) (by have := HS.out; omega)).setCell (Nat.le_refl _) _
  case done =>
    rintro W ⟨⟨r, hB, hOs⟩, hbW⟩ hD
    have hc : W.cell? ⟨s, 0, none⟩ = some r := by simpa using hB.cell 0
    have hDl : W2.heap.size < W.heap.size := (Array.getElem?_eq_some_iff.1 hD).1
    have HB := Lib.hid hB
    rw [List.take_of_length_le (Nat.le_refl _)] at hOs
    have HOs := Lib.hid hOs
    have HSZ := Lib.hid hsz
    clear hB hOs hsz
    gi_wp2
    refine ⟨by simp, .inl ⟨_, _, rfl, run_takeDeferred hD, ?_⟩⟩
    have hO5 : Oel (s + 3) (W.putObj W2.heap.size (.deferred none)) r L := HOs.out.turns (Turns.putObj (priv := fun b => b = W2.heap.size) _ _ _ rfl) (fun b hb hq => by have := (World.ownsRow.lt HOs.out b hb).1; have := HSZ.out; omega)
    rw [← HS.out]
    exact ⟨_, results_tmp rfl _ _ _, r, rfl, hO5.mono (by omega), below_turns hbW (Turns.putObj (priv := fun b => b = W2.heap.size) _ _ _ rfl) (fun b hb => by have := HSZ.out; omega) (by have := HS.out; omega)⟩
  case stop =>
    rintro c k W hk h _
    exact h.elim
theorem collect_any (bp g cap B : Nat) (L : List (List Int)) (w : World) (hbp : Blk w bp 72 #[.slice (some ⟨g, 0, none⟩) L.length cap])
    (hO : Oel B w (.slice (some ⟨g, 0, none⟩) L.length cap) L) (hE : ∀ x ∈ L, E7 x) (hl : L.length ≤ 900000) :
    Calls Try.prog 95 #[.func (.func 97) #[] #[.pointer (some ⟨bp, 0, none⟩)]] w fun e w' => ∃ v, e = .returned v ∧ Oel w.heap.size w' v L ∧ Below w.heap.size w w' := by
  have H := Lib.hid (appendSeq_any bp g cap B L w hbp hO hE hl)
  clear hbp hO hE
  go_enter Try.func95, Try.ntmps95
  go_wp2_with fail
  refine H.out.mono ?_
  rintro e w1 ⟨v, rfl, hO1, hb1⟩
  have HO1 := Lib.hid hO1
  clear hO1
  go_wp2_with fail
  go_ret
  exact ⟨_, rfl, HO1.out, hb1⟩
theorem values_any (a : Option Addr) (n c : Nat) (w : World) :
    Calls Try.prog 85 #[.slice a n c] w fun e w' => e = .returned (.func (.func 97) #[] #[.pointer (some ⟨w.heap.size, 0, none⟩)]) ∧ w' = w.alloc (.cells #[.slice a n c] 72) := by
  go_enter Try.func85, Try.ntmps85
  go_wp2
  go_ret
  exact ⟨rfl, rfl⟩
set_option maxHeartbeats 1000000 in
theorem sortedFunc_any (bp g cap B : Nat) (L : List (List Int)) (w : World) (hbp : Blk w bp 72 #[.slice (some ⟨g, 0, none⟩) L.length cap])
    (hO : Oel B w (.slice (some ⟨g, 0, none⟩) L.length cap) L) (hE : ∀ x ∈ L, El x) (h0 : 0 < L.length) (hl : L.length ≤ 900000) :
    Calls Try.prog 84 #[.func (.func 97) #[] #[.pointer (some ⟨bp, 0, none⟩)], .func (.func 86) #[] #[]] w fun e w' => ∃ v L', e = .returned v ∧ L'.Perm L ∧ Asc L' ∧ Oel w.heap.size w' v L' ∧ Below w.heap.size w w' := by
  have H := Lib.hid (collect_any bp g cap B L w hbp hO (fun x hx => (hE x hx).e7) hl)
  have HE := Lib.hid hE
  have H0 := Lib.hid h0
  have HL := Lib.hid hl
  clear hbp hO hE h0 hl
  go_enter Try.func84, Try.ntmps84
  go_wp2_with fail
  refine H.out.mono ?_
  rintro e w1 ⟨v, rfl, hO1, hb1⟩
  have HO1 := Lib.hid hO1
  have HB1 := Lib.hid hb1
  obtain ⟨g1, cap1, rfl⟩ := hO1.form H0.out
  clear hO1 hb1
  go_wp2_with fail
  refine (sort_el HO1.out HE.out H0.out HL.out).mono ?_
  rintro e w2 ⟨rfl, L', hp, ha, hO2, hg2⟩
  have HO2 := Lib.hid hO2
  have HP2 := Lib.hid hp
  have HA2 := Lib.hid ha
  have HB2 := Lib.hid (HB1.out.grown hg2 HB1.out.size (fun k e => (World.ownsRow.lt HO1.out k e).1))
  clear hO2 hp ha hg2
  go_wp2_with fail
  go_ret
  exact ⟨_, L', rfl, HP2.out, HA2.out, HO2.out, HB2.out⟩
set_option maxHeartbeats 1000000 in
/-- sorted: the elements, ascending, in a row of its own -/
theorem sorted_any {B : Nat} {v : Value} {L : List (List Int)} {w : World} (h : Oel B w v L) (hE : ∀ x ∈ L, El x) (h0 : 0 < L.length) (hl : L.length ≤ 900000) :
    Calls Try.prog 64 #[v] w fun e w' => ∃ v' L', e = .returned v' ∧ L'.Perm L ∧ Asc L' ∧ Oel w.heap.size w' v' L' ∧ Below w.heap.size w w' := by
  obtain ⟨g, cap, rfl⟩ := h.form h0
  have HO := Lib.hid h
  have HE := Lib.hid hE
  have H0 := Lib.hid h0
  have HL := Lib.hid hl
  obtain ⟨n, hn⟩ : ∃ n, n = L.length := ⟨_, rfl⟩
  have HN := Lib.hid hn
  rw [← hn]
  clear h hE h0 hl hn
  go_enter Try.func64, Try.ntmps64
  go_wp2_with fail
  refine (values_any _ _ _ _).mono ?_
  rintro e w1 ⟨rfl, rfl⟩
  have HB1 := Lib.hid ((Below.refl _ w).alloc (Nat.le_refl _) (.cells #[.slice (some ⟨g, 0, none⟩) n cap] 72))
  have HP := Lib.hid (Blk.new w 72 #[.slice (some ⟨g, 0, none⟩) n cap])
  go_wp2_with fail
  rw [HN.out] at *
  refine (sortedFunc_any w.heap.size g cap B L _ HP.out (World.ownsRow.alloc HO.out _) HE.out H0.out HL.out).mono ?_
  rintro e w2 ⟨v2, L', rfl, hp, ha, hO2, hb2⟩
  have HO2 := Lib.hid (Oel.mono hO2 HB1.out.size)
  have HP2 := Lib.hid hp
  have HA2 := Lib.hid ha
  have HB2 := Lib.hid (HB1.out.trans (hb2.mono HB1.out.size))
  clear hO2 hp ha hb2
  go_wp2_with fail
  go_ret
  exact ⟨_, L', rfl, HP2.out, HA2.out, HO2.out, HB2.out⟩
end Go.Proofs.Ytdcilefiacohnaa
