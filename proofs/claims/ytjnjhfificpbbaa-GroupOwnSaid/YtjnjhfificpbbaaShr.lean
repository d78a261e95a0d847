/- shortest. -/
import Derived.Test.YtjnjhfificpbbaaWBk
namespace Go.Proofs.Ytjnjhfificpbbaa
open Go Go.RowKit

/-- what the region that computes the next product leaves -/
def CutN (a0 : Act) (B : World) (c x : List Int) (a' : Act) (w' : World) : Prop := ∃ nb : Nat, a' = ((a0.put (some 50) (.agg (u8s c))).put (some 51) (.agg (u8s x))).put (some 13) (.pointer (some ⟨nb, 0, none⟩)) ∧ Below B.heap.size B w' ∧ Blk w' nb 78 (u8s x) ∧ B.heap.size ≤ nb
theorem wp_alloc_el {o : Oper} {a : Act} {w : World} {K : Act → World → Prop} {Q : Exit → Act → World → Prop} (ho : o.op = .alloc 78) (h : K (a.put o.dst (.pointer (some ⟨w.heap.size, 0, none⟩))) (w.alloc (.cells #[.int .u8 0, .int .u8 0, .int .u8 0, .int .u8 0, .int .u8 0, .int .u8 0, .int .u8 0] 78))) : o.wp Try.prog a w K Q := by
  have e : (execOp a.eval o).run Try.prog w = .ok (.value (.pointer (some ⟨w.heap.size, 0, none⟩))) (w.alloc (.cells #[.int .u8 0, .int .u8 0, .int .u8 0, .int .u8 0, .int .u8 0, .int .u8 0, .int .u8 0] 78)) := by
    unfold execOp; rw [ho]; kernel_rfl
  unfold Oper.wp
  rw [e]
  exact h

/-- the search's state: what has been reached, how, and by how many factors -/
structure Srch (Ps V : List (List Int)) (f : List Int → Option (List Int)) (d : List Int → Nat) (k j : Nat) : Prop where
  sh : Shs (Ps.map cmP) V d k j
  tr : Tree f (fun y => y ∈ V) (fun p => p ∈ Ps) d
  dom : ∀ y, El y → ((f y).isSome = decide (y ∈ V))
  len : ∀ y, ((f y).getD (List.replicate 21 0)).length = 21
  bd : ∀ i, i < V.length → d (V.getD i []) ≤ i
theorem Opr.mono {B B' : Nat} {w : World} {v : Value} {L : List (List Int)} (h : Opr B w v L) (hB : B' ≤ B) : Opr B' w v L := by
  refine ⟨h.1, ?_⟩
  rcases h.2 with h | ⟨g, cap, cur, e1, e2, e3⟩
  · exact .inl h
  · exact .inr ⟨g, cap, cur, e1, Nat.le_trans hB e2, e3⟩
theorem Srch.start (Ps : List (List Int)) : Srch Ps [idL 7] (fun y => if y = idL 7 then some (List.replicate 21 0) else none) (fun _ => 0) 0 0 := by
  refine ⟨Shs.start _, ⟨fun x hx => by rw [List.mem_singleton.1 hx]; exact El.one, rfl, fun x hx h => absurd (List.mem_singleton.1 hx) h⟩, fun y _ => ?_, fun y => ?_, fun i _ => Nat.zero_le _⟩
  · by_cases h : y = idL 7 <;> simp [h]
  · by_cases h : y = idL 7 <;> simp [h]
theorem Srch.has {Ps V : List (List Int)} {f : List Int → Option (List Int)} {d : List Int → Nat} {k j : Nat} (h : Srch Ps V f d k j) (hk : k < V.length) (hx : mulL (V.getD k []) ((Ps.map cmP).getD j []) ∈ V) : Srch Ps V f d k (j + 1) :=
  ⟨h.sh.has hk hx, h.tr, h.dom, h.len, h.bd⟩
theorem Srch.next {Ps V : List (List Int)} {f : List Int → Option (List Int)} {d : List Int → Nat} {k : Nat} (h : Srch Ps V f d k Ps.length) (hk : k < V.length) : Srch Ps V f d (k + 1) 0 :=
  ⟨Shs.next (by rw [List.length_map]; exact h.sh) hk, h.tr, h.dom, h.len, h.bd⟩
theorem Srch.add {Ps V : List (List Int)} {f : List Int → Option (List Int)} {d : List Int → Nat} {k j : Nat} {x p : List Int} (hE : Els (Ps.map cmP)) (h : Srch Ps V f d k j) (hk : k < V.length) (hj : j < Ps.length) (hp : p = Ps.getD j []) (h14 : p.length = 14) (hx : x ∉ V) (e : x = mulL (V.getD k []) (cmP p)) :
    Srch Ps (V ++ [x]) (fun y => if y = x then some (V.getD k [] ++ p) else f y) (dNew d x (d (V.getD k []) + 1)) k (j + 1) := by
  have e1 : x = mulL (V.getD k []) ((Ps.map cmP).getD j []) := by
    rw [e, hp]; simp [hj]
  have s := h.sh.add hk (by rw [List.length_map]; exact hj) hx e1
  have hd : ∀ y ∈ V, dNew d x (d (V.getD k []) + 1) y = d y := fun y hy => by
    unfold dNew
    rw [if_neg fun e => hx (by rw [← e]; exact hy)]
  have hx1 : dNew d x (d (V.getD k []) + 1) x = d (V.getD k []) + 1 := by unfold dNew; rw [if_pos rfl]
  have ek : El (V.getD k []) := h.tr.el _ (getD_mem hk)
  refine ⟨s, ⟨fun y hy => (s.els hE) y hy, s.d1, fun y hy hne => ?_⟩, fun y hy => ?_, fun y => ?_, fun i hi => ?_⟩
  · rcases List.mem_append.1 hy with q | q
    · have hyx : ¬ y = x := fun e => hx (by rw [← e]; exact q)
      obtain ⟨z, r, a1, a2, a3, a4, a5, a6⟩ := h.tr.step y q hne
      refine ⟨z, r, by rw [if_neg hyx]; exact a1, List.mem_append.2 (.inl a2), a3, a4, a5, ?_⟩
      rw [hd y q, hd z a2]; exact a6
    · have q := List.mem_singleton.1 q
      subst q
      refine ⟨V.getD k [], p, by rw [if_pos rfl], List.mem_append.2 (.inl (getD_mem hk)), by rw [hp]; exact getD_mem hj, h14, e, ?_⟩
      rw [hx1, hd _ (getD_mem hk)]
  · by_cases q : y = x
    · subst q; simp
    · simp [q, h.dom y hy]
  · by_cases q : y = x
    · have e7 := ek.2
      simp only [q, if_true, Option.getD_some, List.length_append, e7, h14]
    · simp only [q, if_false]; exact h.len y
  · rw [List.length_append, List.length_singleton] at hi
    by_cases q : i < V.length
    · rw [gets_snoc x q, hd _ (getD_mem q)]
      exact h.bd i q
    · have q2 : i = V.length := by omega
      rw [q2, gets_last, hx1]
      have := h.bd k hk
      omega

set_option maxRecDepth 100000 in
set_option maxHeartbeats 8000000 in
theorem shortest_any {B : Nat} {vp : Value} {Ps : List (List Int)} {x : List Int} {w : World} (hp : Opr B w vp Ps) (hcm : ∀ p ∈ Ps, ∃ a b, p = a ++ b ∧ El a ∧ El b) (hn : Ps.length ≤ 823543) (hx : El x) (hg : Gen (Ps.map cmP) x) :
    Calls Try.prog 68 #[vp, .agg (u8s x)] w fun e w' => ∃ v Qs, e = .returned v ∧ Opr w.heap.size w' v Qs ∧ (∀ p ∈ Qs, p ∈ Ps) ∧ prodF (idL 7) Qs = x ∧ (Lst (fun c => c ∈ Ps.map cmP) Qs.length x ∧ Qs.length ≤ 823543) ∧ Below w.heap.size w w' := by
  have h14 : ∀ p ∈ Ps, p.length = 14 := fun p hp => by
    obtain ⟨a, b, rfl, ha, hb⟩ := hcm p hp
    rw [List.length_append, ha.2, hb.2]
  have hE : Els (Ps.map cmP) := fun c hc => by
    obtain ⟨p, hp, rfl⟩ := List.mem_map.1 hc
    obtain ⟨a, b, rfl, ha, hb⟩ := hcm p hp
    rw [cmP_app ha.2]
    exact ha.comm hb
  have HP := Lib.hid hp
  have HCm := Lib.hid hcm
  have H14 := Lib.hid h14
  have HE := Lib.hid hE
  have HX := Lib.hid hx
  have HGn := Lib.hid hg
  obtain ⟨pa, pcap, rfl⟩ := hp.slice
  obtain ⟨n, hnn⟩ : ∃ n, n = Ps.length := ⟨_, rfl⟩
  have HN := Lib.hid hnn
  rw [← hnn] at HP hn ⊢
  have b1 := (Below.refl w.heap.size w).alloc (Nat.le_refl _) (.cells (u8s x) 78)
  have b2 := b1.alloc b1.size (.map #[] 0)
  have g1 := Blk.new w 78 (u8s x)
  have g2 := g1.alloc (.map #[] 0)
  have m2 := MapV.new (w.alloc (.cells (u8s x) 78))
  rw [World.size_alloc] at m2
  have HB2 := Lib.hid b2
  have HG2 := Lib.hid g2
  have HM2 := Lib.hid m2
  clear hp hcm h14 hE hx hg hnn b1 b2 g1 g2 m2
  go_enter Try.func68, Try.ntmps68
  go_wp2_with (first | (refine wpList_make_st rfl rfl ?_))
  refine (neutral_any _).mono ?_
  rintro e w1 ⟨rfl, hb1⟩
  have HM1 := Lib.hid (HM2.out.below hb1)
  have HG1 := Lib.hid (HG2.out.below hb1)
  have HB1 := Lib.hid (HB2.out.trans (hb1.mono HB2.out.size))
  have hz1 : w.heap.size + 2 ≤ w1.heap.size := by have := hb1.size; rw [World.size_alloc, World.size_alloc] at this; omega
  clear hb1 HM2 HG2 HB2
  go_wp2_with (first | (refine wpList_put_st rfl _ _ _ (.inr rfl) (w.heap.size + 1) 0 _ rfl HM1.out (by unfold maxLen; decide) (idL 7) (List.replicate 21 0) rfl rfl El.one.e7 ?_; intro w2 hm2 hg2))
  have HM2 := Lib.hid (show MapV w2 (w.heap.size + 1) 1 (fun y => if y = idL 7 then some (List.replicate 21 0) else none) from hm2)
  have HG2 := Lib.hid (HM1.out.blk HG1.out hg2)
  have HB2 := Lib.hid (HB1.out.grown hg2 HB1.out.size (fun r e => by have := Option.some.inj e; omega))
  have hz2 : w.heap.size + 2 ≤ w2.heap.size := Nat.le_trans hz1 hg2.size
  clear hm2 hg2 HM1 HG1 HB1 hz1
  refine (neutral_any _).mono ?_
  rintro e w3 ⟨rfl, hb3⟩
  have hz3 : w.heap.size + 2 ≤ w3.heap.size := Nat.le_trans hz2 hb3.size
  have b4 := (Below.refl w3.heap.size w3).alloc (Nat.le_refl _) (.cells (u8s (idL 7)) 78)
  have HM4 := Lib.hid ((HM2.out.below hb3).below b4)
  have HG4 := Lib.hid ((HG2.out.below hb3).below b4)
  have hb23 := HB2.out.trans (hb3.mono HB2.out.size)
  have HB4 := Lib.hid (hb23.trans (b4.mono hb23.size))
  have HV4 := Lib.hid (show Oel (w.heap.size + 1) (w3.alloc (.cells (u8s (idL 7)) 78)) (.slice (some ⟨w3.heap.size, 0, none⟩) 1 1) [idL 7] from
    ⟨by simp [rowsV, length_idL], .inr ⟨w3.heap.size, 1, _, rfl, by omega, Blk.new w3 _ _, Nat.le_refl _, by unfold maxLen; omega, by rw [size_u8s, length_idL], by simp [rowsV, u8s]; exact List.take_of_length_le (by simp [length_idL])⟩⟩)
  clear hb3 b4 hb23 HM2 HG2 HB2 hz2
  go_wp2_with (refine wpList_build_el rfl _ rfl (idL 7) (length_idL 7) rfl ?_)
  generalize w3.alloc (.cells (u8s (idL 7)) 78) = w4 at *
  obtain ⟨mm, hmm⟩ : ∃ mm, mm = w.heap.size + 1 := ⟨_, rfl⟩
  obtain ⟨gb, hgb⟩ : ∃ gb, gb = w.heap.size := ⟨_, rfl⟩
  have HGb := Lib.hid (show gb = w.heap.size ∧ mm = w.heap.size + 1 from ⟨hgb, hmm⟩)
  rw [← hmm, ← hgb]
  have HM4 := Lib.hid (show MapV w4 mm 1 _ by rw [hmm]; exact HM4.out)
  have HG4 := Lib.hid (show Blk w4 gb 78 (u8s x) by rw [hgb]; exact HG4.out)
  have HS4 := Lib.hid (Srch.start Ps)
  clear hmm hgb hz3
  go_loopw [6, 7] (fun rv iv wr => ∃ (k : Nat) (V : List (List Int)) (f : List Int → Option (List Int)) (d : List Int → Nat), iv = .int .i64 k ∧ k ≤ V.length ∧ V.length ≤ 823543 ∧ Hid (Oel (w.heap.size + 1) wr rv V) ∧ Hid (Srch Ps V f d k 0) ∧ Hid (MapV wr mm V.length f) ∧ Hid (Blk wr gb 78 (u8s x)) ∧ Hid (Below w.heap.size w wr)) (fun _ iv _ => 823543 - (intOf iv).toNat)
  case atStart => exact ⟨0, [idL 7], _, _, rfl, Nat.zero_le _, by simp, HV4, HS4, HM4, HG4, HB4⟩
  case round =>
    clear HV4 HS4 HM4 HG4 HB4
    obtain ⟨k, V, f, d, rfl, hk, hvl, HV, HS, HM, HG, HB⟩ := hrel
    obtain ⟨wo, rfl⟩ : ∃ wo, wo = wr := ⟨wr, rfl⟩
    obtain ⟨gv, cv, rfl⟩ := HV.out.form HS.out.sh.one.2
    have HFin := Lib.hid (show ∀ w', Below wo.heap.size wo w' → x ∈ V → Calls Try.prog 90 #[.map (some mm), .agg (u8s x)] w' fun e w'' => ∃ v Qs, e = .returned v ∧ Opr w.heap.size w'' v Qs ∧ (∀ p ∈ Qs, p ∈ Ps) ∧ prodF (idL 7) Qs = x ∧ (Lst (fun c => c ∈ Ps.map cmP) Qs.length x ∧ Qs.length ≤ 823543) ∧ Below w.heap.size w w'' from fun w' hb hxV => by
      have hbw := HB.out.trans (hb.mono HB.out.size)
      have hlt : d x ≤ 823543 := by
        obtain ⟨i, hi, rfl⟩ := List.getElem_of_mem hxV
        have h1 := HS.out.bd i hi
        rw [show V.getD i [] = V[i] by simp [hi]] at h1
        omega
      refine (walkBack_any (HM.out.below hb) HS.out.tr hxV hlt H14.out).mono ?_
      rintro e w'' ⟨v, Qs, q1, q2, q3, q4, q5, q6⟩
      exact ⟨v, Qs, q1, q2.mono hbw.size, q3, q5, ⟨by rw [q4]; exact HS.out.sh.least hxV, by rw [q4]; exact hlt⟩, hbw.trans (q6.mono hbw.size)⟩)
    by_cases hkl : k < V.length
    · obtain ⟨z, hz⟩ : ∃ z, z = (f x).isSome := ⟨_, rfl⟩
      have HZ := Lib.hid hz
      have HZv := Lib.hid (HS.out.dom x HX.out)
      have HL0 := Lib.hid (HS.out.len x)
      obtain ⟨r0, hr0⟩ : ∃ r0, r0 = (f x).getD (List.replicate 21 0) := ⟨_, rfl⟩
      have HR0 := Lib.hid hr0
      rw [← hr0] at HL0
      have HN0 := Lib.hid (Blk.new wo 112 z21)
      have hnb := new_below wo 112 z21 r0
      have HGx := Lib.hid (HG.out.below hnb)
      have HBn := Lib.hid hnb
      clear hz hr0 hnb
      unfold z21 at HN0 HGx HBn
      cases z with
      | true =>
        have HxV := Lib.hid (show x ∈ V from of_decide_eq_true (by rw [← HZv.out]; exact HZ.out.symm))
        go_wp2_with (first | (refine wpList_load_row rfl 78 _ rfl gb rfl 78 (u8s x) (0, 0) _ HG.out Try.underlying78 rfl (infoElem' HX.out.2) ?_) | (refine wpList_look_st rfl _ _ rfl mm V.length f rfl HM.out x rfl HX.out.e7 ?_; rw [← HZ.out, ← HR0.out]) | (refine wpList_store_row rfl 112 _ _ rfl wo.heap.size (u8s r0) rfl rfl 112 _ HN0.out (infoSt' HL0.out) (by rw [size_u8s, HL0.out]; rfl) (u8s_one r0) ?_) | (refine wpList_load_row rfl 78 _ rfl gb rfl 78 (u8s x) (0, 0) _ HGx.out Try.underlying78 rfl (infoElem' HX.out.2) ?_))
        refine (HFin.out _ HBn.out HxV.out).mono ?_
        rintro e w9 ⟨v, Qs, rfl, q2, q3, q4, q5, q6⟩
        have Q2 := Lib.hid q2
        have Q3 := Lib.hid q3
        have Q4 := Lib.hid q4
        have Q5 := Lib.hid q5
        have Q6 := Lib.hid q6
        clear q2 q3 q4 q5 q6
        go_wp2_with fail
        go_ret
        exact ⟨v, Qs, rfl, Q2.out, Q3.out, Q4.out, Q5.out, Q6.out⟩
      | false =>
        have HxV := Lib.hid (show x ∉ V from of_decide_eq_false (by rw [← HZv.out]; exact HZ.out.symm))
        have hr := HV.out.range (fun y hy => (HS.out.tr.el y hy).2) k hkl
        obtain ⟨fr, hfr⟩ : ∃ fr, fr = V.getD k [] := ⟨_, rfl⟩
        have hEf : El fr := by rw [hfr]; exact HS.out.tr.el _ (getD_mem hkl)
        rw [← hfr] at hr
        obtain ⟨wx, hwx⟩ : ∃ wx, wx = (wo.alloc (.cells #[.int .u8 0, .int .u8 0, .int .u8 0, .int .u8 0, .int .u8 0, .int .u8 0, .int .u8 0, .int .u8 0, .int .u8 0, .int .u8 0, .int .u8 0, .int .u8 0, .int .u8 0, .int .u8 0, .int .u8 0, .int .u8 0, .int .u8 0, .int .u8 0, .int .u8 0, .int .u8 0, .int .u8 0] 112)).setRow wo.heap.size (u8s r0) := ⟨_, rfl⟩
        have bx : Below wo.heap.size wo wx := by rw [hwx]; exact HBn.out
        have HGy := Lib.hid (show Blk wx gb 78 (u8s x) from HG.out.below bx)
        have HVy := Lib.hid (HV.out.below' bx)
        have HMy := Lib.hid (HM.out.below bx)
        have HBy := Lib.hid (HB.out.trans (bx.mono HB.out.size))
        have HRy := Lib.hid (show wx.rangeAt gv (k * 7) (fr.map (Value.int .u8)) from by rw [hfr]; exact HVy.out.range (fun y hy => (HS.out.tr.el y hy).2) k hkl)
        have HWx := Lib.hid hwx
        have HEf := Lib.hid hEf
        have HFr := Lib.hid (show k < V.length ∧ V.getD k [] = fr from ⟨hkl, hfr.symm⟩)
        have HQ0 := Lib.hid (Blk.new wx 78 #[.int .u8 0, .int .u8 0, .int .u8 0, .int .u8 0, .int .u8 0, .int .u8 0, .int .u8 0])
        have HQ := Lib.hid (new_blk wx 78 #[.int .u8 0, .int .u8 0, .int .u8 0, .int .u8 0, .int .u8 0, .int .u8 0, .int .u8 0] fr)
        have bq := new_below wx 78 #[.int .u8 0, .int .u8 0, .int .u8 0, .int .u8 0, .int .u8 0, .int .u8 0, .int .u8 0] fr
        have HGz := Lib.hid (HGy.out.below bq)
        have HVz := Lib.hid (HVy.out.below' bq)
        have HMz := Lib.hid (HMy.out.below bq)
        have HBz := Lib.hid (HBy.out.trans (bq.mono HBy.out.size))
        have HVN := Lib.hid (show ¬ some wx.heap.size = (Value.slice (some ⟨gv, 0, none⟩) V.length cv).ownBlock from fun h => by have := (World.ownsRow.lt HVy.out _ h.symm).2; omega)
        have HVNb := Lib.hid (show wx.heap.size < ((wx.alloc (.cells #[.int .u8 0, .int .u8 0, .int .u8 0, .int .u8 0, .int .u8 0, .int .u8 0, .int .u8 0] 78)).setRow wx.heap.size (u8s fr)).heap.size from HQ.out.lt)
        clear hr hfr hEf bx hwx bq
        go_wp2_with (first | (refine wpList_load_row rfl 78 _ rfl gb rfl 78 (u8s x) (0, 0) _ HG.out Try.underlying78 rfl (infoElem' HX.out.2) ?_) | (refine wpList_look_st rfl _ _ rfl mm V.length f rfl HM.out x rfl HX.out.e7 ?_; rw [← HZ.out, ← HR0.out]) | (refine wpList_store_row rfl 112 _ _ rfl wo.heap.size (u8s r0) rfl rfl 112 _ HN0.out (infoSt' HL0.out) (by rw [size_u8s, HL0.out]; rfl) (u8s_one r0) ?_; rw [← HWx.out]) | (refine wpList_load_mid rfl 78 _ rfl gv (k * 7) rfl (fr.map (Value.int .u8)) _ HRy.out Try.underlying78 rfl (info7 HEf.out) ?_) | (refine wpList_store_row rfl 78 _ _ rfl wx.heap.size (u8s fr) rfl rfl 78 #[.int .u8 0, .int .u8 0, .int .u8 0, .int .u8 0, .int .u8 0, .int .u8 0, .int .u8 0] HQ0.out (infoElem' HEf.out.2) (by rw [size_u8s, HEf.out.2]; rfl) (u8s_one fr) ?_))
        obtain ⟨wy, hwy⟩ : ∃ wy, wy = (wx.alloc (.cells #[.int .u8 0, .int .u8 0, .int .u8 0, .int .u8 0, .int .u8 0, .int .u8 0, .int .u8 0] 78)).setRow wx.heap.size (u8s fr) := ⟨_, rfl⟩
        have HQ := Lib.hid (show Blk wy wx.heap.size 78 (u8s fr) by rw [hwy]; exact HQ.out)
        have HGz := Lib.hid (show Blk wy gb 78 (u8s x) by rw [hwy]; exact HGz.out)
        have HVz := Lib.hid (show Oel (w.heap.size + 1) wy _ V by rw [hwy]; exact HVz.out)
        have HMz := Lib.hid (show MapV wy mm V.length f by rw [hwy]; exact HMz.out)
        have HBz := Lib.hid (show Below w.heap.size w wy by rw [hwy]; exact HBz.out)
        obtain ⟨fb, hfb⟩ : ∃ fb, fb = wx.heap.size := ⟨_, rfl⟩
        rw [← hwy, ← hfb]
        rw [← hfb] at HQ HVN
        clear hwy hfb HVNb HQ0 HRy HGy HVy HMy HBy HWx HV HM HG HB HFin HN0 HGx HBn hkl hk HR0 HL0 HZv HxV
        go_loopw [6, 41] (fun rv jv wr => ∃ (j : Nat) (V : List (List Int)) (f : List Int → Option (List Int)) (d : List Int → Nat), jv = .int .i64 j ∧ j ≤ n ∧ Hid (Oel (w.heap.size + 1) wr rv V) ∧ Hid (Srch Ps V f d k j) ∧ Hid (k < V.length ∧ V.getD k [] = fr) ∧ Hid (MapV wr mm V.length f) ∧ Hid (Blk wr gb 78 (u8s x)) ∧ Hid (Blk wr fb 78 (u8s fr)) ∧ Hid (¬ some fb = rv.ownBlock) ∧ Hid (Below w.heap.size w wr)) (fun _ jv _ => n - (intOf jv).toNat)
        case atStart => exact ⟨0, V, f, d, rfl, Nat.zero_le _, HVz, HS, HFr, HMz, HGz, HQ, HVN, HBz⟩
        case round =>
          clear HVz HS HFr HMz HGz HQ HVN HBz hvl HZ
          obtain ⟨j, V, f, d, rfl, hj, HV, HS, HFr, HM, HG, HF, HVN, HB⟩ := hrel
          by_cases hjn : j < n
          · have ho := HP.out.below HB.out
            obtain ⟨gp, cpp, hpe⟩ := HP.out.form (by rw [← HN.out]; omega)
            injection hpe with e1 e2 e3
            subst e1 e3
            clear e2
            have hrp := Opr.range (show Opr B wr (.slice (some ⟨gp, 0, none⟩) n pcap) Ps from ho) H14.out j (by rw [← HN.out]; exact hjn)
            obtain ⟨p, hp⟩ : ∃ p, p = Ps.getD j [] := ⟨_, rfl⟩
            have hpm : p ∈ Ps := by rw [hp]; exact getD_mem (by rw [← HN.out]; exact hjn)
            obtain ⟨a, b, hab, hEa, hEb⟩ := HCm.out p hpm
            have hp14 := H14.out p hpm
            rw [← hp] at hrp
            have HRp := Lib.hid hrp
            have HPp := Lib.hid hp
            have HAb := Lib.hid hab
            have HEa := Lib.hid hEa
            have HEb := Lib.hid hEb
            have HP14 := Lib.hid hp14
            have HQ0 := Lib.hid (Blk.new wr 89 z14)
            unfold z14 at HQ0
            have bq := new_below wr 89 z14 p
            have HQ := Lib.hid (new_blk wr 89 z14 p)
            unfold z14 at bq HQ
            clear ho hrp hp hpm hab hEa hEb hp14
            go_wp2_with (first | (refine wpList_load_mid rfl 89 _ rfl gp (j * 14) rfl (p.map (Value.int .u8)) _ HRp.out Try.underlying89 rfl (infoPr14 HP14.out) ?_) | (refine wpList_store_row rfl 89 _ _ rfl wr.heap.size (u8s p) rfl rfl 89 _ HQ0.out (infoPr' HP14.out) (by rw [size_u8s, HP14.out]; rfl) (u8s_one p) ?_))
            obtain ⟨wz, hwz⟩ : ∃ wz, wz = (wr.alloc (.cells #[.int .u8 0, .int .u8 0, .int .u8 0, .int .u8 0, .int .u8 0, .int .u8 0, .int .u8 0, .int .u8 0, .int .u8 0, .int .u8 0, .int .u8 0, .int .u8 0, .int .u8 0, .int .u8 0] 89)).setRow wr.heap.size (u8s p) := ⟨_, rfl⟩
            rw [← hwz] at bq HQ ⊢
            have HQz := Lib.hid HQ.out
            have HFz := Lib.hid (HF.out.below bq)
            have HGz := Lib.hid (HG.out.below bq)
            have HVz := Lib.hid (HV.out.below' bq)
            have HMz := Lib.hid (HM.out.below bq)
            have HBz := Lib.hid (HB.out.trans (bq.mono HB.out.size))
            obtain ⟨pb, hpb⟩ : ∃ pb, pb = wr.heap.size := ⟨_, rfl⟩
            rw [← hpb] at HQz ⊢
            obtain ⟨cc, hcc⟩ : ∃ cc, cc = commG a b := ⟨_, rfl⟩
            obtain ⟨nx, hnx⟩ : ∃ nx, nx = mulL fr cc := ⟨_, rfl⟩
            have HCj := Lib.hid (show mulL (invL a) (cjTo a b 7) = cc from by rw [cjTo_eq HEa.out HEb.out, hcc]; rfl)
            have HEc := Lib.hid (show El cc by rw [hcc]; exact HEa.out.comm HEb.out)
            have HEn := Lib.hid (show El nx by rw [hnx]; exact HEf.out.mul HEc.out)
            have HCp := Lib.hid (show cmP p = cc by rw [HAb.out, cmP_app HEa.out.2, hcc])
            have HNx := Lib.hid hnx
            clear hwz bq HQ HF HG HV HM HB hpb hcc hnx HRp HQ0
            have hS : Below wz.heap.size wz wz.drew := below_drewN' (Below.refl _ _) 1
            refine wp_region_cut2 (S := fun w' => Below wz.heap.size wz w') (fun a0 a' w' => CutN (((((a0.put (some 45) (.agg (u8s fr))).put (some 46) (.pointer (some ⟨pb, 0, none⟩))).put (some 47) (.agg (u8s a))).put (some 48) (.pointer (some ⟨pb, 7, none⟩))).put (some 49) (.agg (u8s b))) wz cc nx a' w') (by kernel_rfl) ?_ ?_
            · refine held_take (i := 0) (v := .agg (u8s fr)) rfl rfl (by kernel_rfl) (by kernel_rfl) (by kernel_rfl) (fun w' h => run_row_op 78 _ rfl fb rfl 78 (u8s fr) (0, 0) _ (HFz.out.below h) Try.underlying78 rfl (infoElem' HEf.out.2)) hS ?_
              refine held_take (i := 1) (v := .pointer (some ⟨pb, 0, none⟩)) rfl rfl (by kernel_rfl) (by kernel_rfl) (by kernel_rfl) (fun w' h => by go_simp) hS ?_
              simp [Act.put]
              refine held_take (i := 2) (v := .agg (u8s a)) rfl rfl (by kernel_rfl) (by kernel_rfl) (by kernel_rfl) (fun w' h => run_mid_op 78 _ rfl pb 0 rfl (a.map (Value.int .u8)) _ (by
                have h1 := blk_range (HQz.out.below h) 0 7
                rw [HAb.out, List.drop_zero, List.take_left' HEa.out.2] at h1
                exact h1) Try.underlying78 rfl (info7 HEa.out)) hS ?_
              refine held_take (i := 3) (v := .pointer (some ⟨pb, 7, none⟩)) rfl rfl (by kernel_rfl) (by kernel_rfl) (by kernel_rfl) (fun w' h => by go_simp) hS ?_
              simp [Act.put]
              refine held_take (i := 4) (v := .agg (u8s b)) rfl rfl (by kernel_rfl) (by kernel_rfl) (by kernel_rfl) (fun w' h => run_mid_op 78 _ rfl pb 7 rfl (b.map (Value.int .u8)) _ (by
                have h1 := blk_range (HQz.out.below h) 7 7
                rw [HAb.out, List.drop_left' HEa.out.2, List.take_of_length_le (by rw [HEb.out.2]; exact Nat.le_refl _)] at h1
                exact h1) Try.underlying78 rfl (info7 HEb.out)) hS ?_
              simp [Act.put]
              refine wpAnyH_all (rs := [5, 7]) (by kernel_rfl) (by simp) (fun j' hj' => ?_)
              rcases (show j' = 5 ∨ j' = 7 by simpa using hj') with rfl | rfl
              · refine held_pick2 (i := 5) rfl rfl (wp_call_any 81 Try.func81 (by kernel_rfl) rfl _ _ rfl #[.agg (u8s a), .agg (u8s b)] rfl ((commutator_el a b _ HEa.out HEb.out).mono ?_))
                rintro e w5 ⟨rfl, hb5⟩
                rw [HCj.out]
                have hS5 := hS.trans (hb5.mono hS.size)
                refine ⟨_, rfl, hS5, ?_⟩
                simp [Act.put]
                refine wpAnyH_all (rs := [6, 7]) (by kernel_rfl) (by simp) (fun j' hj' => ?_)
                rcases (show j' = 6 ∨ j' = 7 by simpa using hj') with rfl | rfl
                · refine held_pick2 (i := 6) rfl rfl (wp_call_any 83 Try.func83 (by kernel_rfl) rfl _ _ rfl #[.agg (u8s fr), .agg (u8s cc)] rfl ((times_any fr cc _ HEf.out.e7 HEc.out.e7).mono ?_))
                  rintro e w6 ⟨rfl, hb6⟩
                  rw [← HNx.out]
                  have hS6 := hS5.trans (hb6.mono hS5.size)
                  refine ⟨_, rfl, hS6, ?_⟩
                  simp [Act.put]
                  refine held_only (i := 7) rfl rfl (by kernel_rfl) (wp_alloc_el rfl ⟨hS6.alloc hS6.size _, ?_⟩)
                  simp [Act.put]
                  refine held_only (i := 8) rfl rfl (by kernel_rfl) (wp_store_row 78 _ _ rfl w6.heap.size (u8s nx) rfl rfl 78 _ (Blk.new w6 _ _) (infoElem' HEn.out.2) (by rw [size_u8s, HEn.out.2]; rfl) (u8s_one nx) ⟨below_row (hS6.alloc hS6.size _) _ _ hS6.size, held_done (by kernel_rfl) ?_⟩)
                  exact ⟨w6.heap.size, by simp [Act.put, u8s], below_row (hS6.alloc hS6.size _) _ _ hS6.size, Blk.setRow (Blk.new w6 _ _) _, hS6.size⟩
                · refine held_pick2 (i := 7) rfl rfl (wp_alloc_el rfl ⟨hS5.alloc hS5.size _, ?_⟩)
                  have hN := Blk.new w5 78 #[.int .u8 0, .int .u8 0, .int .u8 0, .int .u8 0, .int .u8 0, .int .u8 0, .int .u8 0]
                  have hSa := hS5.alloc hS5.size (.cells #[.int .u8 0, .int .u8 0, .int .u8 0, .int .u8 0, .int .u8 0, .int .u8 0, .int .u8 0] 78)
                  simp [Act.put]
                  refine held_only (i := 6) rfl rfl (by kernel_rfl) (wp_call_any 83 Try.func83 (by kernel_rfl) rfl _ _ rfl #[.agg (u8s fr), .agg (u8s cc)] rfl ((times_any fr cc _ HEf.out.e7 HEc.out.e7).mono ?_))
                  rintro e w6 ⟨rfl, hb6⟩
                  rw [← HNx.out]
                  have hS6 := hSa.trans (hb6.mono hSa.size)
                  refine ⟨_, rfl, hS6, ?_⟩
                  simp [Act.put]
                  refine held_only (i := 8) rfl rfl (by kernel_rfl) (wp_store_row 78 _ _ rfl w5.heap.size (u8s nx) rfl rfl 78 _ (hN.below hb6) (infoElem' HEn.out.2) (by rw [size_u8s, HEn.out.2]; rfl) (u8s_one nx) ⟨below_row hS6 _ _ hS5.size, held_done (by kernel_rfl) ?_⟩)
                  exact ⟨w5.heap.size, by simp [Act.put, u8s], below_row hS6 _ _ hS5.size, Blk.setRow (hN.below hb6) _, hS5.size⟩
              · refine held_pick2 (i := 7) rfl rfl (wp_alloc_el rfl ⟨hS.alloc hS.size _, ?_⟩)
                have hN := Blk.new wz.drew 78 #[.int .u8 0, .int .u8 0, .int .u8 0, .int .u8 0, .int .u8 0, .int .u8 0, .int .u8 0]
                have hSa := hS.alloc hS.size (.cells #[.int .u8 0, .int .u8 0, .int .u8 0, .int .u8 0, .int .u8 0, .int .u8 0, .int .u8 0] 78)
                simp [Act.put]
                refine held_only (i := 5) rfl rfl (by kernel_rfl) (wp_call_any 81 Try.func81 (by kernel_rfl) rfl _ _ rfl #[.agg (u8s a), .agg (u8s b)] rfl ((commutator_el a b _ HEa.out HEb.out).mono ?_))
                rintro e w5 ⟨rfl, hb5⟩
                rw [HCj.out]
                have hS5 := hSa.trans (hb5.mono hSa.size)
                refine ⟨_, rfl, hS5, ?_⟩
                simp [Act.put]
                refine held_only (i := 6) rfl rfl (by kernel_rfl) (wp_call_any 83 Try.func83 (by kernel_rfl) rfl _ _ rfl #[.agg (u8s fr), .agg (u8s cc)] rfl ((times_any fr cc _ HEf.out.e7 HEc.out.e7).mono ?_))
                rintro e w6 ⟨rfl, hb6⟩
                rw [← HNx.out]
                have hS6 := hS5.trans (hb6.mono hS5.size)
                refine ⟨_, rfl, hS6, ?_⟩
                simp [Act.put]
                refine held_only (i := 8) rfl rfl (by kernel_rfl) (wp_store_row 78 _ _ rfl wz.heap.size (u8s nx) rfl rfl 78 _ ((hN.below hb5).below hb6) (infoElem' HEn.out.2) (by rw [size_u8s, HEn.out.2]; rfl) (u8s_one nx) ⟨below_row hS6 _ _ (Nat.le_refl _), held_done (by kernel_rfl) ?_⟩)
                exact ⟨wz.heap.size, by simp [Act.put, u8s], below_row hS6 _ _ (Nat.le_refl _), Blk.setRow ((hN.below hb5).below hb6) _, Nat.le_refl _⟩
            · intro a' w6 hT
              unfold CutN at hT
              obtain ⟨nb, rfl, hb6, hN, hnb⟩ := hT
              have HF6 := Lib.hid (HFz.out.below hb6)
              have HG6 := Lib.hid (HGz.out.below hb6)
              have HV6 := Lib.hid (HVz.out.below' hb6)
              have HM6 := Lib.hid (HMz.out.below hb6)
              have HQ6 := Lib.hid (HQz.out.below hb6)
              have HB6 := Lib.hid (HBz.out.trans (hb6.mono HBz.out.size))
              have HN6 := Lib.hid hN
              obtain ⟨z, hz⟩ : ∃ z, z = (f nx).isSome := ⟨_, rfl⟩
              have HZ := Lib.hid hz
              have HZv := Lib.hid (HS.out.dom nx HEn.out)
              have HL0 := Lib.hid (HS.out.len nx)
              obtain ⟨r1, hr1⟩ : ∃ r1, r1 = (f nx).getD (List.replicate 21 0) := ⟨_, rfl⟩
              have HR1 := Lib.hid hr1
              rw [← hr1] at HL0
              have HS0 := Lib.hid (Blk.new w6 112 z21)
              have b7 := new_below w6 112 z21 r1
              unfold z21 at HS0 b7
              have HF7 := Lib.hid (HF6.out.below b7)
              have HG7 := Lib.hid (HG6.out.below b7)
              have HV7 := Lib.hid (HV6.out.below' b7)
              have HM7 := Lib.hid (HM6.out.below b7)
              have HQ7 := Lib.hid (HQ6.out.below b7)
              have HN7 := Lib.hid (HN6.out.below b7)
              have HB7 := Lib.hid (HB6.out.trans (b7.mono HB6.out.size))
              have HMul := Lib.hid (show mulL (V.getD k []) ((Ps.map cmP).getD j []) = nx from by
                rw [HFr.out.2, HNx.out, ← HCp.out, HPp.out]
                congr 1
                have : j < Ps.length := by rw [← HN.out]; exact hjn
                simp [this])
              clear hb6 hN hnb hz hr1 b7 hS HFz HGz HVz HMz HQz HBz HF6 HG6 HV6 HQ6 HB6
              simp [Act.put]
              cases z with
              | true =>
                have HS2 := Lib.hid (HS.out.has HFr.out.1 (by rw [HMul.out]; exact of_decide_eq_true (by rw [← HZv.out]; exact HZ.out.symm)))
                go_wp2_with (first | (refine wpList_load_row rfl 78 _ rfl nb rfl 78 (u8s nx) (0, 0) _ HN6.out Try.underlying78 rfl (infoElem' HEn.out.2) ?_) | (refine wpList_look_st rfl _ _ rfl mm V.length f rfl HM6.out nx rfl HEn.out.e7 ?_; rw [← HZ.out, ← HR1.out]) | (refine wpList_store_row rfl 112 _ _ rfl w6.heap.size (u8s r1) rfl rfl 112 _ HS0.out (infoSt' HL0.out) (by rw [size_u8s, HL0.out]; rfl) (u8s_one r1) ?_))
                go_roundw
                case rel => exact ⟨j + 1, V, f, d, by go_num, by omega, HV7, HS2, HFr, HM7, HG7, HF7, HVN, HB7⟩
                case measure => simp [intOf]; omega
              | false =>
                have HnV := Lib.hid (show nx ∉ V from of_decide_eq_false (by rw [← HZv.out]; exact HZ.out.symm))
                have hvl : V.length ≤ 823543 := HS.out.sh.len HE.out
                have hvm : V.length < maxLen := by unfold maxLen; omega
                go_wp2_with (first | (refine wpList_load_row rfl 78 _ rfl nb rfl 78 (u8s nx) (0, 0) _ HN6.out Try.underlying78 rfl (infoElem' HEn.out.2) ?_) | (refine wpList_look_st rfl _ _ rfl mm V.length f rfl HM6.out nx rfl HEn.out.e7 ?_; rw [← HZ.out, ← HR1.out]) | (refine wpList_store_row rfl 112 _ _ rfl w6.heap.size (u8s r1) rfl rfl 112 _ HS0.out (infoSt' HL0.out) (by rw [size_u8s, HL0.out]; rfl) (u8s_one r1) ?_) | (refine wpList_load_row rfl 78 _ rfl nb rfl 78 (u8s nx) (0, 0) _ HN7.out Try.underlying78 rfl (infoElem' HEn.out.2) ?_) | (refine wpList_load_row rfl 78 _ rfl fb rfl 78 (u8s fr) (0, 0) _ HF7.out Try.underlying78 rfl (infoElem' HEf.out.2) ?_) | (refine wpList_load_row rfl 89 _ rfl pb rfl 89 (u8s p) (0, 0) _ HQ7.out Try.underlying89 rfl (infoPr' HP14.out) ?_) | (refine wpList_mk rfl 112 _ _ rfl fr p (fr ++ p) rfl rfl (run_mk_st HEf.out.2 HP14.out _) ?_) | (refine wpList_put_st rfl _ _ _ (.inl rfl) mm V.length f rfl HM7.out hvm nx (fr ++ p) rfl rfl HEn.out.e7 ?_; intro w8 hm8 hg8; have HM8 := Lib.hid hm8; have HG8 := Lib.hid hg8) | (refine wpList_load_row rfl 78 _ rfl nb rfl 78 (u8s nx) (0, 0) _ (HM7.out.blk HN7.out HG8.out) Try.underlying78 rfl (infoElem' HEn.out.2) ?_) | (refine wpList_build_el rfl _ rfl nx HEn.out.2 rfl ?_) | (at_builtin; go_loud (refine wpList_append_el rfl _ _ rfl (w.heap.size + 1) _ V rfl (World.ownsRow.alloc (HM7.out.row HV7.out HG8.out) _) _ nx HEn.out.2 rfl (Blk.new _ _ _) (by omega) (by have := HG8.out.size; have := HB7.out.size; have := HG7.out.lt; rw [World.size_alloc]; have := HGb.out.1; omega) ?_; intro v' w9 hown hgrow hat)))
                have hg8 := HG8.out
                have b8 := (Below.refl w8.heap.size w8).alloc (Nat.le_refl _) (.cells (u8s nx) 78)
                have hv8 : Oel (w.heap.size + 1) (w8.alloc (.cells (u8s nx) 78)) u6 V := World.ownsRow.alloc (HM7.out.row HV7.out hg8) _
                have ht := row_typ hv8
                have hlt := World.ownsRow.lt hv8
                have hf8 := (HM7.out.blk HF7.out hg8).below b8
                have hgb8 := (HM7.out.blk HG7.out hg8).below b8
                have hB8 : Below w.heap.size w w8 := HB7.out.grown hg8 HB7.out.size (fun r e => by have := Option.some.inj e; have := HGb.out.2; omega)
                have HV9 := Lib.hid hown
                have HM9 := Lib.hid (show MapV w9 mm (V ++ [nx]).length (fun y => if y = nx then some (V.getD k [] ++ p) else f y) from by
                  rw [HFr.out.2, List.length_append]
                  exact (HM8.out.below b8).other hgrow ht)
                have HG9 := Lib.hid (show Blk w9 gb 78 (u8s x) from (hgrow.block gb hgb8.lt fun e => by have := (hlt gb e.symm).1; have := HGb.out.1; omega).trans hgb8)
                have HF9 := Lib.hid (show Blk w9 fb 78 (u8s fr) from (hgrow.block fb hf8.lt fun e => HVN.out e).trans hf8)
                have HVN9 := Lib.hid (show ¬ some fb = v'.ownBlock from fun h => by
                  rcases hat with e | e
                  · exact HVN.out (h.trans e)
                  · have h1 := Option.some.inj (h.trans e)
                    have h2 := hf8.lt
                    rw [World.size_alloc] at *
                    omega)
                have HB9 := Lib.hid ((hB8.alloc hB8.size (.cells (u8s nx) 78)).grown hgrow (by rw [World.size_alloc]; have := hB8.size; omega) (fun r e => by have := (hlt r e).1; omega))
                have HS9 := Lib.hid (HS.out.add (x := nx) (p := p) HE.out HFr.out.1 (by rw [← HN.out]; exact hjn) HPp.out HP14.out HnV.out (by rw [HFr.out.2, HCp.out]; exact HNx.out))
                have HFr9 := Lib.hid (show k < (V ++ [nx]).length ∧ (V ++ [nx]).getD k [] = fr from ⟨by have := HFr.out.1; rw [List.length_append]; omega, by rw [gets_snoc nx HFr.out.1]; exact HFr.out.2⟩)
                clear hown hgrow hat hg8 b8 hv8 ht hlt hf8 hgb8 hB8
                go_wp2
                go_roundw
                case rel => exact ⟨j + 1, V ++ [nx], _, _, by go_num, by omega, HV9, HS9, HFr9, HM9, HG9, HF9, HVN9, HB9⟩
                case measure => simp [intOf]; omega
          · have hje : j = Ps.length := by rw [← HN.out]; omega
            have HS2 := Lib.hid (show Srch Ps V f d (k + 1) 0 from Srch.next (by rw [← hje]; exact HS.out) HFr.out.1)
            have hk1 : k + 1 ≤ V.length := HFr.out.1
            have hl1 : V.length ≤ 823543 := HS.out.sh.len HE.out
            clear hje HS HFr HF HVN
            go_wp2_with fail
            go_roundw
            case rel => exact ⟨k + 1, V, f, d, by go_num, hk1, hl1, HV, HS2, HM, HG, HB⟩
            case measure => simp [intOf]; omega
    · have hke : k = V.length := by omega
      have hxV : x ∈ V := Shs.all (by have := HS.out.sh; rw [hke] at this; exact this) HGn.out
      have HxV := Lib.hid hxV
      clear hke hxV
      go_wp2_with (refine wpList_load_row rfl 78 _ rfl gb rfl 78 (u8s x) (0, 0) _ HG.out Try.underlying78 rfl (infoElem' HX.out.2) ?_)
      refine (HFin.out _ (Below.refl _ _) HxV.out).mono ?_
      rintro e w9 ⟨v, Qs, rfl, q2, q3, q4, q5, q6⟩
      have Q2 := Lib.hid q2
      have Q3 := Lib.hid q3
      have Q4 := Lib.hid q4
      have Q5 := Lib.hid q5
      have Q6 := Lib.hid q6
      clear q2 q3 q4 q5 q6
      go_wp2_with fail
      go_ret
      exact ⟨v, Qs, rfl, Q2.out, Q3.out, Q4.out, Q5.out, Q6.out⟩
end Go.Proofs.Ytjnjhfificpbbaa
