/- The function literal of commutators: it adds a pair whose commutator has not been met. -/
import Derived.Test.YtjnjhfificpbbaaPRow
import Derived.Test.YtjnjhfificpbbaaPrL
namespace Go.Proofs.Ytjnjhfificpbbaa
open Go Go.RowKit

/-- the commutator of a pair -/
def cmP (p : List Int) : List Int := commG (p.take 7) (p.drop 7)
theorem cmP_app {a b : List Int} (ha : a.length = 7) : cmP (a ++ b) = commG a b := by
  unfold cmP
  rw [List.take_left' ha, List.drop_left' ha]
/-- the list with a pair added whose commutator it lacks -/
def addP (L : List (List Int)) (p : List Int) : List (List Int) := if cmP p ∈ idL 7 :: L.map cmP then L else L ++ [p]
/-- what the literal writes: the set of what has been met, the row of pairs, and their variables -/
structure PSt (B mc pc m : Nat) (L : List (List Int)) (w : World) : Prop where
  c1 : Blk w mc 73 #[.map (some m)]
  c2 : ∃ v, Blk w pc 85 #[v] ∧ Opr B w v L
  st : ∃ M, MapS w m M ∧ M.length = L.length + 1 ∧ ∀ x, x ∈ M ↔ x ∈ idL 7 :: L.map cmP
  lo : B ≤ mc ∧ B ≤ pc ∧ B ≤ m
theorem PSt.below {B mc pc m : Nat} {L : List (List Int)} {w w' : World} (h : PSt B mc pc m L w) (hb : Below w.heap.size w w') : PSt B mc pc m L w' := by
  obtain ⟨a, ⟨v, b1, b2⟩, ⟨M, d1, d2, d3⟩, e⟩ := h
  exact ⟨a.below hb, ⟨v, b1.below hb, b2.below hb⟩, ⟨M, d1.below hb, d2, d3⟩, e⟩
/-- all blocks stay but rows of pairs and their variables -/
def KeepP (w w' : World) : Prop := ∀ (b : Nat) (t : TypeId) (cs : Array Value), Blk w b t cs → t ≠ 85 → t ≠ 89 → Blk w' b t cs
theorem KeepP.refl (w : World) : KeepP w w := fun _ _ _ h _ _ => h
theorem KeepP.trans {a b c : World} (h : KeepP a b) (k : KeepP b c) : KeepP a c := fun x t cs h1 h2 h3 => k x t cs (h x t cs h1 h2 h3) h2 h3
theorem KeepP.of_below {w w' : World} (h : Below w.heap.size w w') : KeepP w w' := fun _ _ _ h1 _ _ => h1.below h
theorem KeepP.row {B sz n : Nat} {w w' : World} {e : TypeId} {v : Value} {xs : List Value} (k : KeepP w w') (h : w.ownsRow B e sz v n xs) (h1 : e ≠ 85) (h2 : e ≠ 89) : w'.ownsRow B e sz v n xs := by
  refine ⟨h.1, ?_⟩
  rcases h.2 with hn | ⟨b, cap, cur, rfl, hb, hc, rest⟩
  · exact .inl hn
  · exact .inr ⟨b, cap, cur, rfl, hb, k b e cur hc h1 h2, rest⟩
/-- a pair beside the row of pairs -/
def Aside (pc : Nat) (w : World) (b : Nat) (cs : Array Value) : Prop := Blk w b 89 cs ∧ ∀ v, Blk w pc 85 #[v] → v.ownBlock ≠ some b
theorem Aside.below {pc b : Nat} {w w' : World} {cs : Array Value} (h : Aside pc w b cs) (hb : Below w.heap.size w w') (hp : pc < w.heap.size) : Aside pc w' b cs :=
  ⟨h.1.below hb, fun v hv => h.2 v (by unfold Blk at hv ⊢; rw [← hb.block pc hp]; exact hv)⟩
theorem blk_range {w : World} {b : Nat} {t : TypeId} {l : List Int} (h : Blk w b t (u8s l)) (k n : Nat) : w.rangeAt b k (((l.drop k).take n).map (Value.int .u8)) := by
  intro j v hv
  rw [h.cell (k + j)]
  rw [List.getElem?_map, List.getElem?_take] at hv
  split at hv
  · rw [List.getElem?_drop] at hv
    simpa [u8s] using hv
  · simp at hv
theorem new_below (w : World) (t : TypeId) (cs : Array Value) (x : List Int) : Below w.heap.size w ((w.alloc (.cells cs t)).setRow w.heap.size (u8s x)) := below_row ((Below.refl w.heap.size w).alloc (Nat.le_refl _) _) _ _ (Nat.le_refl _)
theorem new_blk (w : World) (t : TypeId) (cs : Array Value) (x : List Int) : Blk ((w.alloc (.cells cs t)).setRow w.heap.size (u8s x)) w.heap.size t (u8s x) := Blk.setRow (Blk.new w t cs) _

/-- what stands after the append and the store -/
theorem addp_end {B mc pc m : Nat} {L M : List (List Int)} {p x : List Int} {v v' : Value} {w w5 w7 : World} (hM : M.length = L.length + 1) (hM2 : ∀ y, y ∈ M ↔ y ∈ idL 7 :: L.map cmP) (hx : cmP p = x) (hn : ¬ x ∈ M) (lo : B ≤ mc ∧ B ≤ pc ∧ B ≤ m)
    (m5 : MapS w5 m (x :: M)) (a1 : Blk w5 mc 73 #[.map (some m)]) (a2 : Blk w5 pc 85 #[v]) (a4 : Opr B w5 v L) (a5 : Below B w w5) (a6 : KeepP w w5) (hB : B ≤ w5.heap.size)
    (hown : Opr B w7 v' (L ++ [p])) (hg : (w5.alloc (.cells (u8s p) 89)).grownBy w7 v.ownBlock) (hat : v'.ownBlock = v.ownBlock ∨ v'.ownBlock = some (w5.alloc (.cells (u8s p) 89)).heap.size) (ha : ∀ b cs, Aside pc w b cs → Aside pc w5 b cs) :
    PSt B mc pc m (addP L p) (w7.setCell ⟨pc, 0, none⟩ v') ∧ Below B w (w7.setCell ⟨pc, 0, none⟩ v') ∧ KeepP w (w7.setCell ⟨pc, 0, none⟩ v') ∧ ∀ b cs, Aside pc w b cs → Aside pc (w7.setCell ⟨pc, 0, none⟩ v') b cs := by
  have b6 := (Below.refl w5.heap.size w5).alloc (Nat.le_refl _) (.cells (u8s p) 89)
  have r6 : Opr B _ v L := a4.below b6
  have ht := row_typ r6
  have c1 := (a1.below b6).grown hg ht (by decide)
  have c2 := (a2.below b6).grown hg ht (by decide)
  have m7 := (m5.below b6).other hg ht
  have b7 : Below B w w7 := (a5.alloc hB (.cells (u8s p) 89)).grown hg (by rw [World.size_alloc]; omega) (fun r e => (World.ownsRow.lt r6 r e).1)
  have k7 : KeepP w w7 := (a6.trans (KeepP.of_below b6)).trans fun q t cs hq h1 h2 => hq.grown hg ht h2
  have hadd : addP L p = L ++ [p] := by
    unfold addP
    rw [if_neg fun h => hn ((hM2 x).2 (by rw [← hx]; exact h))]
  have hne : mc ≠ pc := c1.ne c2 (by decide)
  have hmp : m ≠ pc := fun e => by
    obtain ⟨es, ck, h0⟩ := m7.isMap
    rw [e] at h0
    unfold Blk at c2
    rw [h0] at c2
    cases c2
  have c8 : Blk (w7.setCell ⟨pc, 0, none⟩ v') pc 85 #[v'] := by have := c2.set 0 v'; simpa using this
  refine ⟨?_, b7.setCell lo.2.1 _, k7.trans fun q t cs hq h1 h2 => hq.other pc 0 _ (hq.ne c2 h1), fun q cs hq => ?_⟩
  case refine_2 =>
    obtain ⟨q1, q2⟩ := ha q cs hq
    have q3 := q2 v a2
    have q4 : Blk w7 q 89 cs := (hg.block q (by rw [World.size_alloc]; have := q1.lt; omega) (fun e => q3 e.symm)).trans (q1.below b6)
    refine ⟨q4.other pc 0 _ (q4.ne c2 (by decide)), fun u hu => ?_⟩
    have e : u = v' := by
      unfold Blk at hu c8
      rw [c8] at hu
      cases hu; rfl
    rw [e]
    rcases hat with h | h
    · rw [h]; exact q3
    · rw [h]
      intro e
      have := Option.some.inj e
      have := q1.lt
      rw [World.size_alloc] at *
      omega
  rw [hadd]
  refine ⟨c1.other pc 0 _ hne, ⟨v', c8, ?_⟩, ⟨x :: M, m7.same (heap_setCell_other w7 ⟨pc, 0, none⟩ m v' hmp), by simp [hM], fun y => ?_⟩, lo⟩
  · exact row_set hown c2 (by decide)
  · rw [List.mem_cons, hM2 y, List.map_append, List.map_singleton, hx]
    simp only [List.mem_cons, List.mem_append]
    constructor
    · rintro (h | h | h)
      · exact .inr (.inr (.inl h))
      · exact .inl h
      · exact .inr (.inl h)
    · rintro (h | h | h | h)
      · exact .inr (.inl h)
      · exact .inr (.inr h)
      · exact .inl h
      · cases h

set_option maxRecDepth 100000 in
set_option maxHeartbeats 4000000 in
theorem addp_any {B mc pc m : Nat} {L : List (List Int)} {a b : List Int} {w : World} (ha : El a) (hb : El b) (h : PSt B mc pc m L w) (hn : L.length ≤ 900000) (hB : B ≤ w.heap.size) :
    Calls Try.prog 91 #[.agg (u8s (a ++ b)), .pointer (some ⟨mc, 0, none⟩), .pointer (some ⟨pc, 0, none⟩)] w fun r w' => r = .returned (.tuple #[]) ∧ PSt B mc pc m (addP L (a ++ b)) w' ∧ Below B w w' ∧ KeepP w w' ∧ ∀ q cs, Aside pc w q cs → Aside pc w' q cs := by
  have hl : (a ++ b).length = 14 := by rw [List.length_append, ha.2, hb.2]
  have hb0 := (Below.refl w.heap.size w).alloc (Nat.le_refl _) (.cells (u8s (a ++ b)) 89)
  have hP := Blk.new w 89 (u8s (a ++ b))
  have hr1 := blk_range hP 0 7
  have hr2 := blk_range hP 7 7
  rw [List.drop_zero, List.take_left' ha.2] at hr1
  rw [List.drop_left' ha.2, List.take_of_length_le (by rw [hb.2]; exact Nat.le_refl _)] at hr2
  have HL := Lib.hid hl
  have HB0 := Lib.hid hb0
  have HP := Lib.hid hP
  have R1 := Lib.hid hr1
  have R2 := Lib.hid hr2
  have HA := Lib.hid ha
  have HBb := Lib.hid hb
  obtain ⟨h1, ⟨v, h2, h3⟩, ⟨M, h4, h5, h6⟩, h7⟩ := h
  have H1 := Lib.hid h1
  have H2 := Lib.hid h2
  have H3 := Lib.hid h3
  have H4 := Lib.hid h4
  have H5 := Lib.hid h5
  have H6 := Lib.hid h6
  have H7 := Lib.hid h7
  have HCM := Lib.hid (cmP_app (b := b) ha.2)
  have HBw := Lib.hid hB
  have HN := Lib.hid hn
  have HCj := Lib.hid (cjTo_eq ha hb)
  have HEx := Lib.hid (ha.comm hb)
  obtain ⟨x, hx⟩ : ∃ x, x = commG a b := ⟨_, rfl⟩
  have HX := Lib.hid hx
  rw [← hx] at HEx HCM
  obtain ⟨z, hz⟩ : ∃ z, z = decide (x ∈ M) := ⟨_, rfl⟩
  have HZ := Lib.hid hz
  clear hl hb0 hP hr1 hr2 ha hb h1 h2 h3 h4 h5 h6 h7 hB hn hx hz
  go_enter Try.func91, Try.ntmps91
  go_wp2_with (first | (refine wpList_load_mid rfl 78 _ rfl w.heap.size 0 rfl (a.map (Value.int .u8)) _ R1.out Try.underlying78 rfl (info7 HA.out) ?_) | (refine wpList_load_mid rfl 78 _ rfl w.heap.size 7 rfl (b.map (Value.int .u8)) _ R2.out Try.underlying78 rfl (info7 HBb.out) ?_))
  refine (commutator_el a b _ HA.out HBb.out).mono ?_
  rintro e w1 ⟨rfl, hb1⟩
  rw [HCj.out, show mulL (invL a) (conjL a b) = x from HX.out.symm]
  obtain ⟨w0, hw0⟩ : ∃ w0, w0 = w.alloc (.cells (u8s (a ++ b)) 89) := ⟨_, rfl⟩
  rw [← hw0] at hb1
  have B0 := HB0.out
  have P0 := HP.out
  rw [← hw0] at B0 P0
  have hbw := B0.trans (hb1.mono B0.size)
  have hN0 := Blk.new w1 78 #[.int .u8 0, .int .u8 0, .int .u8 0, .int .u8 0, .int .u8 0, .int .u8 0, .int .u8 0]
  have hnb := new_below w1 78 #[.int .u8 0, .int .u8 0, .int .u8 0, .int .u8 0, .int .u8 0, .int .u8 0, .int .u8 0] x
  have hnX := new_blk w1 78 #[.int .u8 0, .int .u8 0, .int .u8 0, .int .u8 0, .int .u8 0, .int .u8 0, .int .u8 0] x
  have hbn := hbw.trans (hnb.mono hbw.size)
  have HN0 := Lib.hid hN0
  have HNX := Lib.hid hnX
  have HBN := Lib.hid hbn
  have HPN := Lib.hid ((P0.below hb1).below hnb)
  have k1 := (H1.out.below hbn).cell 0
  have k2 := (H2.out.below hbn).cell 0
  have H1N := Lib.hid (H1.out.below hbn)
  have H2N := Lib.hid (H2.out.below hbn)
  have H3N := Lib.hid (H3.out.below hbn)
  have H4N := Lib.hid (H4.out.below hbn)
  clear hb1 hw0 B0 P0 hbw hN0 hnb hnX hbn
  cases z with
  | true =>
    go_wp2_with (first | (refine wpList_store_row rfl 78 _ _ rfl w1.heap.size (u8s x) rfl rfl 78 #[.int .u8 0, .int .u8 0, .int .u8 0, .int .u8 0, .int .u8 0, .int .u8 0, .int .u8 0] HN0.out (infoElem' HEx.out.2) (by rw [size_u8s, HEx.out.2]; rfl) (u8s_one x) ?_) | (refine wpList_load_row rfl 78 _ rfl w1.heap.size rfl 78 (u8s x) (0, 0) _ HNX.out Try.underlying78 rfl (infoElem' HEx.out.2) ?_) | (refine wpList_look_set rfl _ _ rfl m M rfl H4N.out x rfl HEx.out.e7 ?_; rw [← HZ.out]))
    have hin : cmP (a ++ b) ∈ idL 7 :: L.map cmP := by rw [HCM.out]; exact (H6.out x).1 (of_decide_eq_true HZ.out.symm)
    have he : addP L (a ++ b) = L := by unfold addP; rw [if_pos hin]
    go_end0
    rw [he]
    exact ⟨rfl, ⟨H1N.out, ⟨v, H2N.out, H3N.out⟩, ⟨M, H4N.out, H5.out, H6.out⟩, H7.out⟩, HBN.out.mono HBw.out, KeepP.of_below HBN.out, fun q cs hq => hq.below HBN.out H2.out.lt⟩
  | false =>
    have hml : M.length < maxLen := by have := H5.out; have := HN.out; unfold maxLen; omega
    have AFT : ∀ w5, MapS w5 m (x :: M) → ((w1.alloc (.cells #[.int .u8 0, .int .u8 0, .int .u8 0, .int .u8 0, .int .u8 0, .int .u8 0, .int .u8 0] 78)).setRow w1.heap.size (u8s x)).grownBy w5 (some m) → Blk w5 mc 73 #[.map (some m)] ∧ Blk w5 pc 85 #[v] ∧ Blk w5 w.heap.size 89 (u8s (a ++ b)) ∧ Opr B w5 v L ∧ Below B w w5 ∧ KeepP w w5 ∧ (∀ q cs, Aside pc w q cs → Aside pc w5 q cs) := fun w5 hm5 hg5 =>
      ⟨H4N.out.blk H1N.out hg5, H4N.out.blk H2N.out hg5, H4N.out.blk HPN.out hg5, H4N.out.row H3N.out hg5, (HBN.out.mono HBw.out).grown hg5 (Nat.le_trans HBw.out HBN.out.size) (fun r e => by have := Option.some.inj e; have := H7.out; omega), (KeepP.of_below HBN.out).trans (fun q t cs hq _ _ => H4N.out.blk hq hg5), fun q cs hq => ⟨H4N.out.blk (hq.below HBN.out H2.out.lt).1 hg5, fun u hu => hq.2 u (by
        have h1 := H4N.out.blk H2N.out hg5
        unfold Blk at hu h1
        rw [h1] at hu
        cases hu
        exact H2.out)⟩⟩
    have HAft := Lib.hid AFT
    clear AFT
    go_wp2_with (first | (refine wpList_store_row rfl 78 _ _ rfl w1.heap.size (u8s x) rfl rfl 78 #[.int .u8 0, .int .u8 0, .int .u8 0, .int .u8 0, .int .u8 0, .int .u8 0, .int .u8 0] HN0.out (infoElem' HEx.out.2) (by rw [size_u8s, HEx.out.2]; rfl) (u8s_one x) ?_) | (refine wpList_load_row rfl 78 _ rfl w1.heap.size rfl 78 (u8s x) (0, 0) _ HNX.out Try.underlying78 rfl (infoElem' HEx.out.2) ?_) | (refine wpList_look_set rfl _ _ rfl m M rfl H4N.out x rfl HEx.out.e7 ?_; rw [← HZ.out]) | (refine wpList_put_set rfl _ _ _ rfl m M rfl H4N.out hml x rfl rfl HEx.out.e7 ?_; intro w5 hm5 hg5; obtain ⟨a1, a2, a3, a4, a5, a6, a7⟩ := HAft.out w5 hm5 hg5; have A7 := Lib.hid a7; have k5 := a2.cell 0; have HM5 := Lib.hid hm5; have A1 := Lib.hid a1; have A2 := Lib.hid a2; have A3 := Lib.hid a3; have A4 := Lib.hid a4; have A5 := Lib.hid a5; have A6 := Lib.hid a6; have hz5 := Nat.le_trans HBw.out a5.size; have hz5 : B ≤ w5.heap.size := Nat.le_trans HBw.out (Nat.le_trans HBN.out.size hg5.size); have HZ5 := Lib.hid hz5; have HE6 := Lib.hid (Blk.new w5 89 (u8s (a ++ b))); have b6 := (Below.refl w5.heap.size w5).alloc (Nat.le_refl _) (.cells (u8s (a ++ b)) 89); have H36 := Lib.hid (A4.out.below b6); have A26 := Lib.hid (A2.out.below b6); clear hm5 hg5 a1 a2 a3 a4 a5 a6 a7 b6 k1 k2 hz5) | (refine wpList_load_row rfl 89 _ rfl w.heap.size rfl 89 (u8s (a ++ b)) (0, 0) _ A3.out Try.underlying89 rfl (infoPr' HL.out) ?_) | (refine wpList_build_pr rfl _ rfl (a ++ b) HL.out rfl ?_) | (at_builtin; go_loud (refine wpList_append_pr rfl _ _ rfl B _ L rfl H36.out w5.heap.size (a ++ b) HL.out rfl HE6.out (by have := HN.out; omega) (by have := HZ5.out; rw [World.size_alloc]; omega) ?_; intro v' w7 hown hgrow hat; obtain ⟨g7, c7, rfl⟩ := hown.form (by simp); have HO7 := Lib.hid hown; have HG7 := Lib.hid hgrow; have HAt := Lib.hid hat; have a27 := A26.out.grown hgrow (row_typ H36.out) (by decide); have k7 := a27.cell 0; have k8 := a27.free 0; clear hown hgrow hat a27 k5)))
    have hend := addp_end H5.out H6.out HCM.out (of_decide_eq_false HZ.out.symm) H7.out HM5.out A1.out A2.out A4.out A5.out A6.out HZ5.out HO7.out HG7.out HAt.out A7.out
    rw [show (L ++ [a ++ b]).length = L.length + 1 by simp] at hend
    go_end0
    exact ⟨rfl, hend⟩
end Go.Proofs.Ytjnjhfificpbbaa
