/- (*closed).class. | (*closed).classes. | group.Classes. | The reference's Classes. -/
import Derived.Test.YtjnjhfificpbbaaCEN
namespace Go.Proofs.Ytjnjhfificpbbaa
open Go Go.RowKit

theorem MapS.isMap {w : World} {b : Nat} {L : List (List Int)} (h : MapS w b L) : ∃ es clock, w.heap[b]? = some (.map es clock) := by
  obtain ⟨_, ⟨es, clock, h0, _⟩, _⟩ := h
  exact ⟨es, clock, h0⟩
theorem MapS.blk {w w' : World} {m b : Nat} {M : List (List Int)} {t : TypeId} {cs : Array Value} (h : MapS w m M) (hb : Blk w b t cs) (hg : w.grownBy w' (some m)) : Blk w' b t cs := by
  refine (hg.block b hb.lt fun e => ?_).trans hb
  obtain ⟨es, c, h0⟩ := h.isMap
  rw [Option.some.inj e] at hb
  unfold Blk at hb
  rw [h0] at hb
  cases hb
theorem MapS.row {B sz n m : Nat} {w w' : World} {M : List (List Int)} {e : TypeId} {v : Value} {xs : List Value} (h : MapS w m M) (hv : w.ownsRow B e sz v n xs) (hg : w.grownBy w' (some m)) : w'.ownsRow B e sz v n xs := by
  refine hv.kept hg ?_
  cases hq : v.ownBlock with
  | none => exact .inl rfl
  | some b =>
    refine .inr fun e1 => ?_
    obtain ⟨c1, k1⟩ := row_typ hv b hq
    obtain ⟨es, c, h0⟩ := h.isMap
    rw [Option.some.inj e1, h0] at k1
    cases k1
theorem MapS.other {w w' : World} {m : Nat} {M : List (List Int)} {row : Option Nat} {t : TypeId} (h : MapS w m M) (hg : w.grownBy w' row) (ht : ∀ b, row = some b → ∃ cur, w.heap[b]? = some (.cells cur t (0, 0))) : MapS w' m M := by
  refine h.kept hg fun e => ?_
  obtain ⟨c1, k1⟩ := ht m e.symm
  obtain ⟨es, c, h0⟩ := h.isMap
  rw [h0] at k1
  cases k1

/-- the orbit of e under conjugation with the elements G, as far as it is searched -/
structure Orb (G : List (List Int)) (e : List Int) (V : List (List Int)) (k j : Nat) : Prop where
  nd : V.Nodup
  mem : ∀ x ∈ V, El x ∧ ∃ y, Gen G y ∧ x = conjL e y
  one : e ∈ V
  done : ∀ i, i < k → ∀ b ∈ G, conjL (V.getD i []) b ∈ V
  now : ∀ i, i < j → conjL (V.getD k []) (G.getD i []) ∈ V
theorem Orb.len {G V : List (List Int)} {e : List Int} {k j : Nat} (h : Orb G e V k j) : V.length ≤ 823543 := els_len h.nd (fun a ha => (h.mem a ha).1.e7)
theorem Orb.start (G : List (List Int)) {e : List Int} (he : El e) : Orb G e [e] 0 0 :=
  ⟨by simp, fun x hx => by rw [List.mem_singleton.1 hx]; exact ⟨he, _, .one, (conj_by_one he).symm⟩, by simp, fun i hi => by omega, fun i hi => by omega⟩
theorem Orb.has {G V : List (List Int)} {e : List Int} {k j : Nat} (h : Orb G e V k j) (hx : conjL (V.getD k []) (G.getD j []) ∈ V) : Orb G e V k (j + 1) :=
  ⟨h.nd, h.mem, h.one, h.done, fun i hi => by
    by_cases q : i = j
    · rw [q]; exact hx
    · exact h.now i (by omega)⟩
theorem Orb.gets {V : List (List Int)} (x : List Int) {i : Nat} (h : i < V.length) : (V ++ [x]).getD i [] = V.getD i [] := by
  rw [List.getD_eq_getElem?_getD, List.getElem?_append_left h, ← List.getD_eq_getElem?_getD]
theorem Orb.add {G V : List (List Int)} {e : List Int} {k j : Nat} (h : Orb G e V k j) (hG : Els G) (he : El e) (hk : k < V.length) (hj : j < G.length) (hx : conjL (V.getD k []) (G.getD j []) ∉ V) : Orb G e (V ++ [conjL (V.getD k []) (G.getD j [])]) k (j + 1) := by
  have hb := getD_mem hj
  obtain ⟨ha, y, hy, ey⟩ := h.mem _ (getD_mem hk)
  refine ⟨?_, fun x hx' => ?_, List.mem_append.2 (.inl h.one), fun i hi b hb' => ?_, fun i hi => ?_⟩
  · exact List.nodup_append.2 ⟨h.nd, by simp, fun a ha b hb hab => by rw [List.mem_singleton.1 hb] at hab; rw [hab] at ha; exact hx ha⟩
  · rcases List.mem_append.1 hx' with q | q
    · exact h.mem x q
    · rw [List.mem_singleton.1 q]
      refine ⟨ha.conj (hG _ hb), mulL y (G.getD j []), hy.step hb, ?_⟩
      rw [conj_conj he (hy.el hG) (hG _ hb), ← ey]
  · rw [Orb.gets _ (Nat.lt_trans hi hk)]
    exact List.mem_append.2 (.inl (h.done i hi b hb'))
  · rw [Orb.gets _ hk]
    by_cases q : i = j
    · rw [q]; simp
    · exact List.mem_append.2 (.inl (h.now i (by omega)))
theorem Orb.next {G V : List (List Int)} {e : List Int} {k : Nat} (h : Orb G e V k G.length) : Orb G e V (k + 1) 0 :=
  ⟨h.nd, h.mem, h.one, fun i hi b hb => by
    by_cases q : i = k
    · subst q
      obtain ⟨t, ht, rfl⟩ := List.getElem_of_mem hb
      have := h.now t ht
      rwa [show G.getD t [] = G[t] by simp [ht]] at this
    · exact h.done i (by omega) b hb, fun i hi => by omega⟩
theorem Orb.end {G V : List (List Int)} {e : List Int} (h : Orb G e V V.length 0) (hG : Els G) (he : El e) (x : List Int) : x ∈ V ↔ ∃ y, Gen G y ∧ x = conjL e y := by
  refine ⟨fun hx => (h.mem x hx).2, ?_⟩
  rintro ⟨y, hy, rfl⟩
  induction hy with
  | one => rw [conj_by_one he]; exact h.one
  | step hy hm ih =>
    rw [conj_conj he (hy.el hG) (hG _ hm)]
    obtain ⟨i, hi, e1⟩ := List.getElem_of_mem ih
    have := h.done i hi _ hm
    rwa [show V.getD i [] = V[i] by simp [hi], e1] at this

set_option maxRecDepth 100000 in
set_option maxHeartbeats 4000000 in
theorem class_any {B c m : Nat} {n : Int} {vg vl : Value} {G L : List (List Int)} {a : List Int} {w : World} (h : Clo B w c m n vg vl G L) (g : Grp G L) (ha : El a) :
    Calls Try.prog 88 #[.pointer (some ⟨c, 0, none⟩), .agg (u8s a)] w fun e w' => ∃ v V, e = .returned v ∧ Oel w.heap.size w' v V ∧ V.Nodup ∧ (∀ x ∈ V, El x) ∧ a ∈ V ∧ (∀ x, x ∈ V ↔ ∃ y, Gen G y ∧ x = conjL a y) ∧ Below w.heap.size w w' := by
  have HC := Lib.hid h
  have HG := Lib.hid g
  have HEA := Lib.hid ha
  have b1 := Below.alloc (Below.refl w.heap.size w) (Nat.le_refl _) (.cells (u8s a) 78)
  have b2 := b1.alloc (by rw [World.size_alloc]; omega) (.cells (u8s a) 78)
  have b3 := b2.alloc (by rw [World.size_alloc, World.size_alloc]; omega) (.map #[] 0)
  have h1 := Blk.new w 78 (u8s a)
  have h2 := h1.alloc (.cells (u8s a) 78)
  have h3 := h2.alloc (.map #[] 0)
  have k2 : Oel w.heap.size ((w.alloc (.cells (u8s a) 78)).alloc (.cells (u8s a) 78)) (.slice (some ⟨w.heap.size + 1, 0, none⟩) 1 1) [a] :=
    ⟨by simp [rowsV, ha.2], .inr ⟨w.heap.size + 1, 1, _, rfl, Nat.le_succ _, (by have := Blk.new (w.alloc (.cells (u8s a) 78)) 78 (u8s a); rw [World.size_alloc] at this; exact this), Nat.le_refl _, by unfold maxLen; omega, by rw [size_u8s, ha.2], by simp [rowsV, u8s]; exact List.take_of_length_le (by simp [ha.2])⟩⟩
  have k3 : Oel w.heap.size _ _ _ := World.ownsRow.alloc k2 (.map #[] 0)
  have m3 := MapS.new ((w.alloc (.cells (u8s a) 78)).alloc (.cells (u8s a) 78))
  have HB3 := Lib.hid b3
  have H1 := Lib.hid h1
  have H3 := Lib.hid h3
  have K3 := Lib.hid k3
  have M3 := Lib.hid m3
  obtain ⟨ag, cg, rfl⟩ := h.rg.slice
  have hgl := g.glen
  clear h g ha b1 b2 b3 h1 h2 h3 k2 k3 m3
  go_enter Try.func88, Try.ntmps88
  go_wp2_with (first | (refine wpList_load_row rfl 78 _ rfl w.heap.size rfl 78 (u8s a) (0, 0) _ H1.out Try.underlying78 rfl (infoElem' HEA.out.2) ?_) | (refine wpList_build_el rfl _ rfl a HEA.out.2 rfl ?_) | (refine wpList_make_set rfl rfl ?_) | (refine wpList_load_row rfl 78 _ rfl w.heap.size rfl 78 (u8s a) (0, 0) _ H3.out Try.underlying78 rfl (infoElem' HEA.out.2) ?_; go_loud (refine wpList_ins_set rfl _ _ _ rfl _ [] rfl M3.out (by unfold maxLen; decide) a rfl rfl HEA.out.e7 ?_); intro w4 hm4 hg4; rw [World.size_alloc, World.size_alloc] at hm4 hg4; have HM4 := Lib.hid hm4; have HG4 := Lib.hid hg4; clear hm4 hg4))
  have HM4s := Lib.hid (show SetOf w4 (w.heap.size + 1 + 1) [a] from ⟨[a], HM4.out, rfl, fun x => Iff.rfl⟩)
  have HK4 := Lib.hid (show Oel w.heap.size w4 _ [a] from (show MapS _ (w.heap.size + 1 + 1) [] from by have h := M3.out; rw [World.size_alloc, World.size_alloc] at h; exact h).row K3.out HG4.out)
  have HB4 := Lib.hid (HB3.out.grown HG4.out HB3.out.size (fun r e => by have := Option.some.inj e; omega))
  have HO := Lib.hid (Orb.start G HEA.out)
  clear HM4 HG4 M3 K3 H3 H1 HB3
  obtain ⟨mm, hmm⟩ : ∃ mm, mm = w.heap.size + 1 + 1 := ⟨_, rfl⟩
  rw [← hmm] at HM4s ⊢
  have HMW := Lib.hid (show w.heap.size ≤ mm by omega)
  clear hmm
  go_loopw [5, 7] (fun v i wr => ∃ (k : Nat) (V : List (List Int)), i = .int .i64 k ∧ k ≤ V.length ∧ V.length ≤ 823543 ∧ Hid (Oel w.heap.size wr v V) ∧ Hid (Orb G a V k 0) ∧ Hid (SetOf wr mm V) ∧ Hid (Below w.heap.size w wr)) (fun _ i _ => 823543 - (intOf i).toNat)
  case atStart => exact ⟨0, [a], rfl, Nat.zero_le _, by simp, HK4, HO, HM4s, HB4⟩
  case round =>
    clear HK4 HO HM4s HB4
    obtain ⟨k, V, rfl, hk, hvl, HV, HO, HS, HB⟩ := hrel
    obtain ⟨gv, cv, rfl⟩ := HV.out.form (List.length_pos_of_mem HO.out.one)
    by_cases hlt : k < V.length
    · obtain ⟨wo, rfl⟩ : ∃ wo, wo = wr := ⟨wr, rfl⟩
      have hr := HV.out.range (fun x hx => (HO.out.mem x hx).1.2) k hlt
      obtain ⟨f, hf⟩ : ∃ f, f = V.getD k [] := ⟨_, rfl⟩
      have hEf : El f := by rw [hf]; exact (HO.out.mem _ (getD_mem hlt)).1
      rw [← hf] at hr
      have HR := Lib.hid hr
      have HF := Lib.hid (And.intro hlt hf.symm)
      have HEF := Lib.hid hEf
      have HQ0 := Lib.hid (Blk.new wo 78 #[.int .u8 0, .int .u8 0, .int .u8 0, .int .u8 0, .int .u8 0, .int .u8 0, .int .u8 0])
      have HQ := Lib.hid (Blk.setRow HQ0.out (u8s f))
      have HBQ := Lib.hid (below_row ((Below.refl wo.heap.size wo).alloc (Nat.le_refl _) (.cells #[.int .u8 0, .int .u8 0, .int .u8 0, .int .u8 0, .int .u8 0, .int .u8 0, .int .u8 0] 78)) wo.heap.size (u8s f) (Nat.le_refl _))
      have HBX := Lib.hid (HB.out.trans (HBQ.out.mono HB.out.size))
      have HVX := Lib.hid (HV.out.below' HBQ.out)
      have HSX := Lib.hid (show SetOf _ mm V from HS.out.same (HBQ.out.block mm HS.out.lt))
      have h3 := (HC.out.cells.below HBX.out).cell 1
      clear hr hf hEf
      go_wp2_with (first | (refine wpList_load_mid rfl 78 _ rfl gv (k * 7) rfl (f.map (Value.int .u8)) _ HR.out Try.underlying78 rfl (info7 HEF.out) ?_) | (refine wpList_store_row rfl 78 _ _ rfl wo.heap.size (u8s f) rfl rfl 78 #[.int .u8 0, .int .u8 0, .int .u8 0, .int .u8 0, .int .u8 0, .int .u8 0, .int .u8 0] HQ0.out (infoElem' HEF.out.2) (by rw [size_u8s, HEF.out.2]; rfl) (u8s_one f) ?_))
      have HVN := Lib.hid (show ¬ some wo.heap.size = (Value.slice (some ⟨gv, 0, none⟩) V.length cv).ownBlock from fun h => by have := (World.ownsRow.lt HV.out _ h.symm).2; omega)
      clear HR HQ0 HBQ HB h3 HV HS
      go_loopw [5, 32] (fun v i wr => ∃ (j : Nat) (V : List (List Int)), i = .int .i64 j ∧ j ≤ G.length ∧ Hid (Oel w.heap.size wr v V) ∧ Hid (Orb G a V k j) ∧ Hid (k < V.length ∧ V.getD k [] = f) ∧ Hid (SetOf wr mm V) ∧ Hid (Below w.heap.size w wr) ∧ Hid (Blk wr wo.heap.size 78 (u8s f)) ∧ Hid (¬ some wo.heap.size = v.ownBlock)) (fun _ i _ => G.length - (intOf i).toNat)
      case atStart => exact ⟨0, V, rfl, Nat.zero_le _, HVX, HO, HF, HSX, HBX, HQ, HVN⟩
      case round =>
        clear HVX HO HF HSX HBX HQ HVN hk hlt hvl
        obtain ⟨j, V, rfl, hj, HV, HO, HF, HS, HB, HQ, HVN⟩ := hrel
        by_cases hjl : j < G.length
        · obtain ⟨gh, ch, hag⟩ := HC.out.rg.form (by omega)
          cases hag
          obtain ⟨gv, cv, rfl⟩ := HV.out.form (List.length_pos_of_mem HO.out.one)
          have hr := (HC.out.below HB.out).rg.range (fun x hx => (HG.out.gels x hx).2) j hjl
          obtain ⟨b, hb⟩ : ∃ b, b = G.getD j [] := ⟨_, rfl⟩
          have hEb : El b := by rw [hb]; exact HG.out.gels _ (getD_mem hjl)
          rw [← hb] at hr
          have HR := Lib.hid hr
          have HBB := Lib.hid hb
          have HE := Lib.hid hEb
          have HR0 := Lib.hid (Blk.new wr 78 #[.int .u8 0, .int .u8 0, .int .u8 0, .int .u8 0, .int .u8 0, .int .u8 0, .int .u8 0])
          have HRX := Lib.hid (Blk.setRow HR0.out (u8s b))
          have HBX := Lib.hid (below_row ((Below.refl wr.heap.size wr).alloc (Nat.le_refl _) (.cells #[.int .u8 0, .int .u8 0, .int .u8 0, .int .u8 0, .int .u8 0, .int .u8 0, .int .u8 0] 78)) wr.heap.size (u8s b) (Nat.le_refl _))
          have HQX := Lib.hid (HQ.out.below HBX.out)
          have HEC := Lib.hid (HEF.out.conj HE.out)
          have HCj := Lib.hid (cjTo_eq HEF.out HE.out)
          have HLn := Lib.hid HO.out.len
          obtain ⟨M, hm, hml, hM⟩ := HS.out
          have HM := Lib.hid hm
          have HML := Lib.hid hml
          have HMM := Lib.hid hM
          obtain ⟨x, hx⟩ : ∃ x, x = conjL f b := ⟨_, rfl⟩
          rw [← hx] at HEC HCj
          have HX := Lib.hid hx
          obtain ⟨z, hz⟩ : ∃ z, z = decide (x ∈ M) := ⟨_, rfl⟩
          have HZ := Lib.hid hz
          clear hb hr hEb hm hml hM hx hz
          cases z with
          | true =>
            go_wp2_with (first | (refine wpList_load_mid rfl 78 _ rfl gh (j * 7) rfl (b.map (Value.int .u8)) _ HR.out Try.underlying78 rfl (info7 HE.out) ?_) | (refine wpList_store_row rfl 78 _ _ rfl wr.heap.size (u8s b) rfl rfl 78 #[.int .u8 0, .int .u8 0, .int .u8 0, .int .u8 0, .int .u8 0, .int .u8 0, .int .u8 0] HR0.out (infoElem' HE.out.2) (by rw [size_u8s, HE.out.2]; rfl) (u8s_one b) ?_) | (refine wpList_load_row rfl 78 _ rfl wo.heap.size rfl 78 (u8s f) (0, 0) _ HQX.out Try.underlying78 rfl (infoElem' HEF.out.2) ?_) | (refine wpList_load_row rfl 78 _ rfl wr.heap.size rfl 78 (u8s b) (0, 0) _ HRX.out Try.underlying78 rfl (infoElem' HE.out.2) ?_) | (go_at_call 82; refine (conj_el f b _ HEF.out.e7 HE.out.e7).mono ?_; rintro r w1 ⟨rfl, hb1⟩; rw [HCj.out]; have hw1 := HBX.out.trans (hb1.mono HBX.out.size); have HN0 := Lib.hid (Blk.new w1 78 #[.int .u8 0, .int .u8 0, .int .u8 0, .int .u8 0, .int .u8 0, .int .u8 0, .int .u8 0]); have HNX := Lib.hid (Blk.setRow HN0.out (u8s x)); have hwN := hw1.trans ((below_row ((Below.refl w1.heap.size w1).alloc (Nat.le_refl _) (.cells #[.int .u8 0, .int .u8 0, .int .u8 0, .int .u8 0, .int .u8 0, .int .u8 0, .int .u8 0] 78)) w1.heap.size (u8s x) (Nat.le_refl _)).mono hw1.size); have HQN := Lib.hid (HQ.out.below hwN); have HVN2 := Lib.hid (HV.out.below' hwN); have HMN := Lib.hid (HM.out.below hwN); have HBN := Lib.hid (HB.out.trans (hwN.mono HB.out.size)); clear hb1 hw1 hwN) | (refine wpList_store_row rfl 78 _ _ rfl w1.heap.size (u8s x) rfl rfl 78 #[.int .u8 0, .int .u8 0, .int .u8 0, .int .u8 0, .int .u8 0, .int .u8 0, .int .u8 0] HN0.out (infoElem' HEC.out.2) (by rw [size_u8s, HEC.out.2]; rfl) (u8s_one x) ?_) | (refine wpList_load_row rfl 78 _ rfl w1.heap.size rfl 78 (u8s x) (0, 0) _ HNX.out Try.underlying78 rfl (infoElem' HEC.out.2) ?_) | (refine wpList_look_set rfl _ _ rfl mm M rfl HMN.out x rfl HEC.out.e7 ?_; rw [← HZ.out]))
            have HO2 := Lib.hid (HO.out.has (by rw [HF.out.2, ← HBB.out, ← HX.out]; exact (HMM.out x).1 (of_decide_eq_true HZ.out.symm)))
            have HS2 := Lib.hid (show SetOf _ mm V from ⟨M, HMN.out, HML.out, HMM.out⟩)
            go_roundw
            case rel => exact ⟨j + 1, V, by go_num, by omega, HVN2, HO2, HF, HS2, HBN, HQN, HVN⟩
            case measure => simp [intOf]; omega
          | false =>
            go_wp2_with (first | (refine wpList_load_mid rfl 78 _ rfl gh (j * 7) rfl (b.map (Value.int .u8)) _ HR.out Try.underlying78 rfl (info7 HE.out) ?_) | (refine wpList_store_row rfl 78 _ _ rfl wr.heap.size (u8s b) rfl rfl 78 #[.int .u8 0, .int .u8 0, .int .u8 0, .int .u8 0, .int .u8 0, .int .u8 0, .int .u8 0] HR0.out (infoElem' HE.out.2) (by rw [size_u8s, HE.out.2]; rfl) (u8s_one b) ?_) | (refine wpList_load_row rfl 78 _ rfl wo.heap.size rfl 78 (u8s f) (0, 0) _ HQX.out Try.underlying78 rfl (infoElem' HEF.out.2) ?_) | (refine wpList_load_row rfl 78 _ rfl wr.heap.size rfl 78 (u8s b) (0, 0) _ HRX.out Try.underlying78 rfl (infoElem' HE.out.2) ?_) | (go_at_call 82; refine (conj_el f b _ HEF.out.e7 HE.out.e7).mono ?_; rintro r w1 ⟨rfl, hb1⟩; rw [HCj.out]; have hw1 := HBX.out.trans (hb1.mono HBX.out.size); have HN0 := Lib.hid (Blk.new w1 78 #[.int .u8 0, .int .u8 0, .int .u8 0, .int .u8 0, .int .u8 0, .int .u8 0, .int .u8 0]); have HNX := Lib.hid (Blk.setRow HN0.out (u8s x)); have hwN := hw1.trans ((below_row ((Below.refl w1.heap.size w1).alloc (Nat.le_refl _) (.cells #[.int .u8 0, .int .u8 0, .int .u8 0, .int .u8 0, .int .u8 0, .int .u8 0, .int .u8 0] 78)) w1.heap.size (u8s x) (Nat.le_refl _)).mono hw1.size); have HQN := Lib.hid (HQ.out.below hwN); have HVN2 := Lib.hid (HV.out.below' hwN); have HMN := Lib.hid (HM.out.below hwN); have HBN := Lib.hid (HB.out.trans (hwN.mono HB.out.size)); clear hb1 hw1 hwN) | (refine wpList_store_row rfl 78 _ _ rfl w1.heap.size (u8s x) rfl rfl 78 #[.int .u8 0, .int .u8 0, .int .u8 0, .int .u8 0, .int .u8 0, .int .u8 0, .int .u8 0] HN0.out (infoElem' HEC.out.2) (by rw [size_u8s, HEC.out.2]; rfl) (u8s_one x) ?_) | (refine wpList_load_row rfl 78 _ rfl w1.heap.size rfl 78 (u8s x) (0, 0) _ HNX.out Try.underlying78 rfl (infoElem' HEC.out.2) ?_) | (refine wpList_look_set rfl _ _ rfl mm M rfl HMN.out x rfl HEC.out.e7 ?_; rw [← HZ.out]) | (refine wpList_put_set rfl _ _ _ rfl mm M rfl HMN.out (by have := HML.out; have := HLn.out; unfold maxLen; omega) x rfl rfl HEC.out.e7 ?_; intro w5 hm5 hg5; have HNX5 := Lib.hid (HMN.out.blk HNX.out hg5); have HV5 := Lib.hid (show Oel w.heap.size w5 _ V from HMN.out.row HVN2.out hg5); have HQ5 := Lib.hid (HMN.out.blk HQN.out hg5); have HB5 := Lib.hid (HBN.out.grown hg5 HBN.out.size (fun r e => by have := HMW.out; have := Option.some.inj e; omega)); have HM5 := Lib.hid hm5; have HE6 := Lib.hid (Blk.new w5 78 (u8s x)); have b6 := (Below.refl w5.heap.size w5).alloc (Nat.le_refl _) (.cells (u8s x) 78); have HV6 := Lib.hid (HV5.out.below' b6); have HQ6 := Lib.hid (HQ5.out.below b6); have HM6 := Lib.hid (HM5.out.below b6); have HB6 := Lib.hid (HB5.out.trans (b6.mono HB5.out.size)); clear hm5 hg5 b6) | (refine wpList_load_row rfl 78 _ rfl w1.heap.size rfl 78 (u8s x) (0, 0) _ HNX5.out Try.underlying78 rfl (infoElem' HEC.out.2) ?_) | (refine wpList_build_el rfl _ rfl x HEC.out.2 rfl ?_) | (at_builtin; go_loud (refine wpList_append_el rfl _ _ rfl w.heap.size _ V rfl HV6.out w5.heap.size x HEC.out.2 rfl HE6.out (by have := HLn.out; omega) (by have := HB6.out.size; omega) ?_; intro v' w7 hown hgrow hat)))
            have HO2 := Lib.hid (show Orb G a (V ++ [x]) k (j + 1) from by
              have h := HO.out.add HG.out.gels HEA.out HF.out.1 hjl
              rw [HF.out.2, ← HBB.out, ← HX.out] at h
              exact h fun hx => of_decide_eq_false HZ.out.symm ((HMM.out x).2 hx))
            have HV7 := Lib.hid hown
            have HF2 := Lib.hid (show k < (V ++ [x]).length ∧ (V ++ [x]).getD k [] = f from ⟨by have := HF.out.1; rw [List.length_append]; omega, by rw [Orb.gets _ HF.out.1]; exact HF.out.2⟩)
            have HS2 := Lib.hid (show SetOf w7 mm (V ++ [x]) from ⟨x :: M, HM6.out.other hgrow (row_typ HV6.out), by have := HML.out; simp; omega, fun y => by have := HMM.out y; simp [this, or_comm]⟩)
            have HB7 := Lib.hid (HB6.out.grown hgrow HB6.out.size (fun r e => (World.ownsRow.lt HV6.out r e).1))
            have HQ7 := Lib.hid (show Blk w7 wo.heap.size 78 (u8s f) from (hgrow.block _ HQ6.out.lt HVN.out).trans HQ6.out)
            have HVN7 := Lib.hid (show ¬ some wo.heap.size = v'.ownBlock from fun h => by
              rcases hat with e | e
              · exact HVN.out (h.trans e)
              · have h1 := Option.some.inj (h.trans e)
                have h2 := HQ6.out.lt
                omega)
            clear hown hgrow hat
            go_wp2
            go_roundw
            case rel => exact ⟨j + 1, V ++ [x], by go_num, by omega, HV7, HO2, HF2, HS2, HB7, HQ7, HVN7⟩
            case measure => simp [intOf]; omega
        · have hje : j = G.length := by omega
          have HO2 := Lib.hid (show Orb G a V (k + 1) 0 from Orb.next (by rw [← hje]; exact HO.out))
          have hk1 : k + 1 ≤ V.length := HF.out.1
          have hl1 : V.length ≤ 823543 := HO.out.len
          clear hje
          go_wp2
          go_roundw
          case rel => exact ⟨k + 1, V, by go_num, hk1, hl1, HV, HO2, HS, HB⟩
          case measure => simp [intOf]; omega
    · have hke : k = V.length := by omega
      have HE := Lib.hid (show Orb G a V V.length 0 by rw [hke] at HO; exact HO.out)
      clear hke
      go_wp2
      go_ret
      exact ⟨_, V, rfl, HV.out, HE.out.nd, fun x hx => (HE.out.mem x hx).1, HE.out.one, HE.out.end HG.out.gels HEA.out, HB.out⟩
end Go.Proofs.Ytjnjhfificpbbaa
namespace Go.Proofs.Ytjnjhfificpbbaa
open Go Go.RowKit

/-- the class of e in the list S, in the list's order -/
def clsOf (S : List (List Int)) (e : List Int) : List (List Int) := S.filter fun x => decide (x ∈ S.map (conjL e))
/-- the classes of the first k elements of S -/
def clsTo (S : List (List Int)) : Nat → List (List (List Int))
  | 0 => []
  | k + 1 => if S.getD k [] ∈ (clsTo S k).flatten then clsTo S k else clsTo S k ++ [clsOf S (S.getD k [])]
theorem clsOf_len (S : List (List Int)) (e : List Int) : (clsOf S e).length ≤ S.length := List.length_filter_le _ _
theorem clsTo_len (S : List (List Int)) : ∀ k, (clsTo S k).length ≤ k
  | 0 => Nat.le_refl _
  | k + 1 => by
    have := clsTo_len S k
    unfold clsTo
    split
    · omega
    · rw [List.length_append]; simp; omega
theorem clsTo_sub (S : List (List Int)) : ∀ k, ∀ C ∈ clsTo S k, ∃ e, C = clsOf S e
  | 0 => fun C h => by cases h
  | k + 1 => fun C h => by
    unfold clsTo at h
    split at h
    · exact clsTo_sub S k C h
    · rcases List.mem_append.1 h with h | h
      · exact clsTo_sub S k C h
      · exact ⟨_, List.mem_singleton.1 h⟩
/-- the orbit of an element of the group, sorted, is its class -/
theorem cls_sorted {G L S V V' : List (List Int)} {e : List Int} (g : Grp G L) (hp : S.Perm L) (ha : Asc S) (he : e ∈ S) (hn : V.Nodup) (hm : ∀ x, x ∈ V ↔ ∃ y, Gen G y ∧ x = conjL e y) (hp' : V'.Perm V) (ha' : Asc V') : V' = clsOf S e := by
  have hS : ∀ a, a ∈ S ↔ Gen G a := fun a => hp.mem_iff.trans ⟨g.gen a, fun h => h.least (S := fun x => x ∈ L) g.one (fun a b h1 h2 => g.cls a h1 b h2)⟩
  refine asc_uniq (hp'.nodup_iff.2 hn) ((hp.nodup_iff.2 g.nd).filter _) ha' (List.Pairwise.filter _ ha) fun a => ?_
  rw [hp'.mem_iff, hm a]
  unfold clsOf
  rw [List.mem_filter, decide_eq_true_iff, List.mem_map]
  constructor
  · rintro ⟨y, hy, rfl⟩
    exact ⟨(hS _).2 (((hy.inv g.gels).mul g.gels ((hS e).1 he)).mul g.gels hy), y, (hS y).2 hy, rfl⟩
  · rintro ⟨_, y, hy, rfl⟩
    exact ⟨y, (hS y).1 hy, rfl⟩

/-- a row of the call's own of lists of elements -/
def CRow (B : Nat) (w : World) (v : Value) (Cs : List (List (List Int))) : Prop := ∃ xs : List Value, xs.length = Cs.length ∧ w.ownsRow B 72 1 v xs.length xs ∧ ∀ i, i < Cs.length → Oel B w (xs.getD i undef) (Cs.getD i [])
theorem CRow.below {B : Nat} {w w' : World} {v : Value} {Cs : List (List (List Int))} (h : CRow B w v Cs) (hb : Below w.heap.size w w') : CRow B w' v Cs := by
  obtain ⟨xs, h1, h2, h3⟩ := h
  exact ⟨xs, h1, row_below h2 hb, fun i hi => (h3 i hi).below' hb⟩
theorem CRow.map {B m : Nat} {w w' : World} {v : Value} {Cs : List (List (List Int))} {M : List (List Int)} (h : CRow B w v Cs) (hm : MapS w m M) (hg : w.grownBy w' (some m)) : CRow B w' v Cs := by
  obtain ⟨xs, h1, h2, h3⟩ := h
  exact ⟨xs, h1, hm.row h2 hg, fun i hi => hm.row (h3 i hi) hg⟩
theorem CRow.nil (B : Nat) (w : World) : CRow B w (.slice none 0 0) [] := ⟨[], rfl, World.ownsRow_nil _ _ _ _, fun i hi => by cases hi⟩
theorem infoEs : (Try.prog.info? 72).map (fun i => (i.zero, i.size, i.bytes)) = some (some (.slice none 0 0), 1, 24) := by kernel_rfl
theorem CRow.push {B : Nat} {w w' : World} {v v' y : Value} {o : Obj} {Cs : List (List (List Int))} {C : List (List Int)} {xs : List Value} (hl : xs.length = Cs.length) (h : w.ownsRow B 72 1 v xs.length xs) (hx : ∀ i, i < Cs.length → Oel B w (xs.getD i undef) (Cs.getD i [])) (hy : Oel B w y C)
    (ho : w'.ownsRow B 72 1 v' (xs.length + 1) (xs ++ [y])) (hg : (w.alloc o).grownBy w' v.ownBlock) : CRow B w' v' (Cs ++ [C]) := by
  have ht : ∀ b, v.ownBlock = some b → ∃ cur, (w.alloc o).heap[b]? = some (.cells cur 72 (0, 0)) := row_typ (h.alloc _)
  have keep : ∀ {x q}, Oel B w x q → Oel B w' x q := fun {x q} hx => row_other (t := 72) (World.ownsRow.alloc hx _) hg ht (by decide)
  refine ⟨xs ++ [y], by simp [hl], by rw [List.length_append]; exact ho, fun i hi => ?_⟩
  rw [List.length_append] at hi
  simp only [List.length_cons, List.length_nil] at hi
  by_cases e : i < Cs.length
  · rw [List.getD_eq_getElem?_getD, List.getElem?_append_left (by omega), ← List.getD_eq_getElem?_getD, List.getD_eq_getElem?_getD (l := Cs ++ [C]), List.getElem?_append_left e, ← List.getD_eq_getElem?_getD]
    exact keep (hx i e)
  · have e0 : i = Cs.length := by omega
    have e1 : (xs ++ [y]).getD i undef = y := by rw [e0, ← hl]; simp
    have e2 : (Cs ++ [C]).getD i [] = C := by rw [e0]; simp
    rw [e1, e2]; exact keep hy

/-- the marks: what has been met -/
def Met (w : World) (m : Nat) (c : Nat) (P : List Int → Prop) : Prop := ∃ M, MapS w m M ∧ M.length ≤ c ∧ ∀ x, x ∈ M ↔ P x

set_option maxRecDepth 100000 in
set_option maxHeartbeats 4000000 in
theorem classes_any {B c m : Nat} {n : Int} {vg vl : Value} {G L : List (List Int)} {w : World} (h : Clo B w c m n vg vl G L) (g : Grp G L) :
    Calls Try.prog 65 #[.pointer (some ⟨c, 0, none⟩)] w fun e w' => ∃ v S, e = .returned v ∧ S.Perm L ∧ Asc S ∧ CRow w.heap.size w' v (clsTo S S.length) ∧ Below w.heap.size w w' := by
  obtain ⟨i0, hi, hz0, hz1, hz2⟩ := info_parts infoEs
  have HC := Lib.hid h
  have HG := Lib.hid g
  have hll := g.len
  have hl0 : 0 < L.length := List.length_pos_of_mem g.one
  have HB0 := Lib.hid ((Below.refl w.heap.size w).alloc (Nat.le_refl _) (.map #[] 0))
  have HM0 := Lib.hid (MapS.new w)
  have HC0 := Lib.hid (h.below HB0.out)
  obtain ⟨gl, cl, rfl⟩ := h.rl.form hl0
  have h2 := HC0.out.cells.cell 2
  clear h g
  go_enter Try.func65, Try.ntmps65
  go_wp2_with (first | (refine wpList_make_set rfl rfl ?_) | (go_at_call 64; refine (sorted_any HC0.out.rl HG.out.els hl0 (by omega)).mono ?_; rintro r w1 ⟨sv, S, rfl, hsp, hsa, hso, hb1⟩; obtain ⟨gs, cs, rfl⟩ := hso.form (by rw [hsp.length_eq]; exact hl0); have HSP := Lib.hid hsp; have HSA := Lib.hid hsa; have HSO := Lib.hid hso; have HB1 := Lib.hid hb1; clear hsp hsa hso hb1))
  have HSo := Lib.hid (HSO.out.mono (by rw [World.size_alloc]; omega : w.heap.size ≤ _))
  have HBo := Lib.hid (HB0.out.trans (HB1.out.mono HB0.out.size))
  have HMo := Lib.hid (show Met w1 w.heap.size (0 * 823543) (fun x => x ∈ (clsTo S 0).flatten) from ⟨[], HM0.out.below HB1.out, Nat.zero_le _, fun x => by simp [clsTo]⟩)
  have HCo := Lib.hid (show CRow w.heap.size w1 (.slice none 0 0) (clsTo S 0) from CRow.nil _ _)
  have hsl : S.length ≤ 823543 := by rw [HSP.out.length_eq]; exact hll
  have HES := Lib.hid (show ∀ x ∈ S, El x from fun x hx => HG.out.els x (HSP.out.mem_iff.1 hx))
  obtain ⟨mm, hmm⟩ : ∃ mm, mm = w.heap.size := ⟨_, rfl⟩
  rw [← hmm] at HMo ⊢
  have HMW := Lib.hid (show w.heap.size ≤ mm by omega)
  clear hmm HSO HB1 HM0 HC0 HB0 h2
  go_loopw [3, 17] (fun v i wr => ∃ k : Nat, i = .int .i64 k ∧ k ≤ S.length ∧ Hid (CRow w.heap.size wr v (clsTo S k)) ∧ Hid (Met wr mm (k * 823543) (fun x => x ∈ (clsTo S k).flatten)) ∧ Hid (Oel w.heap.size wr (.slice (some ⟨gs, 0, none⟩) S.length cs) S) ∧ Hid (Below w.heap.size w wr)) (fun _ i _ => S.length - (intOf i).toNat)
  case atStart => exact ⟨0, rfl, Nat.zero_le _, HCo, HMo, HSo, HBo⟩
  case round =>
    clear HCo HMo HSo HBo
    obtain ⟨k, rfl, hk, HR, HM, HS, HB⟩ := hrel
    by_cases hlt : k < S.length
    · obtain ⟨wo, rfl⟩ : ∃ wo, wo = wr := ⟨wr, rfl⟩
      have hr := HS.out.range (fun x hx => (HES.out x hx).2) k hlt
      obtain ⟨e, he⟩ : ∃ e, e = S.getD k [] := ⟨_, rfl⟩
      have hEe : El e := by rw [he]; exact HES.out _ (getD_mem hlt)
      have hme : e ∈ S := by rw [he]; exact getD_mem hlt
      rw [← he] at hr
      have HRg := Lib.hid hr
      have HE := Lib.hid he
      have HEe := Lib.hid hEe
      have HMe := Lib.hid hme
      have HQ0 := Lib.hid (Blk.new wo 78 #[.int .u8 0, .int .u8 0, .int .u8 0, .int .u8 0, .int .u8 0, .int .u8 0, .int .u8 0])
      have HQ := Lib.hid (Blk.setRow HQ0.out (u8s e))
      have HBQ := Lib.hid (below_row ((Below.refl wo.heap.size wo).alloc (Nat.le_refl _) (.cells #[.int .u8 0, .int .u8 0, .int .u8 0, .int .u8 0, .int .u8 0, .int .u8 0, .int .u8 0] 78)) wo.heap.size (u8s e) (Nat.le_refl _))
      have HBX := Lib.hid (HB.out.trans (HBQ.out.mono HB.out.size))
      have HRX := Lib.hid (HR.out.below HBQ.out)
      have HSX := Lib.hid (HS.out.below' HBQ.out)
      obtain ⟨M, hm, hml, hM⟩ := HM.out
      have HMX := Lib.hid (hm.below HBQ.out)
      have HML := Lib.hid hml
      have HMM := Lib.hid hM
      have HCX := Lib.hid (HC.out.below HBX.out)
      obtain ⟨z, hz⟩ : ∃ z, z = decide (e ∈ M) := ⟨_, rfl⟩
      have HZ := Lib.hid hz
      clear hr he hEe hme hm hml hM hz
      cases z with
      | true =>
        have hcl : clsTo S (k + 1) = clsTo S k := by
          have h := (HMM.out e).1 (of_decide_eq_true HZ.out.symm)
          rw [HE.out] at h
          show (if _ then _ else _) = _
          rw [if_pos h]
        have HR2 := Lib.hid (show CRow w.heap.size _ _ (clsTo S (k + 1)) by rw [hcl]; exact HRX.out)
        have HM2 := Lib.hid (show Met _ mm ((k + 1) * 823543) (fun x => x ∈ (clsTo S (k + 1)).flatten) by rw [hcl]; exact ⟨M, HMX.out, Nat.le_trans HML.out (Nat.mul_le_mul_right _ (Nat.le_succ k)), HMM.out⟩)
        clear hcl
        go_wp2_with (first | (refine wpList_load_mid rfl 78 _ rfl gs (k * 7) rfl (e.map (Value.int .u8)) _ HRg.out Try.underlying78 rfl (info7 HEe.out) ?_) | (refine wpList_store_row rfl 78 _ _ rfl wo.heap.size (u8s e) rfl rfl 78 #[.int .u8 0, .int .u8 0, .int .u8 0, .int .u8 0, .int .u8 0, .int .u8 0, .int .u8 0] HQ0.out (infoElem' HEe.out.2) (by rw [size_u8s, HEe.out.2]; rfl) (u8s_one e) ?_) | (refine wpList_load_row rfl 78 _ rfl wo.heap.size rfl 78 (u8s e) (0, 0) _ HQ.out Try.underlying78 rfl (infoElem' HEe.out.2) ?_) | (refine wpList_look_set rfl _ _ rfl mm M rfl HMX.out e rfl HEe.out.e7 ?_; rw [← HZ.out]))
        go_roundw
        case rel => exact ⟨k + 1, by go_num, by omega, HR2, HM2, HSX, HBX⟩
        case measure => simp [intOf]; omega
      | false =>
        go_wp2_with (first | (refine wpList_load_mid rfl 78 _ rfl gs (k * 7) rfl (e.map (Value.int .u8)) _ HRg.out Try.underlying78 rfl (info7 HEe.out) ?_) | (refine wpList_store_row rfl 78 _ _ rfl wo.heap.size (u8s e) rfl rfl 78 #[.int .u8 0, .int .u8 0, .int .u8 0, .int .u8 0, .int .u8 0, .int .u8 0, .int .u8 0] HQ0.out (infoElem' HEe.out.2) (by rw [size_u8s, HEe.out.2]; rfl) (u8s_one e) ?_) | (refine wpList_load_row rfl 78 _ rfl wo.heap.size rfl 78 (u8s e) (0, 0) _ HQ.out Try.underlying78 rfl (infoElem' HEe.out.2) ?_) | (refine wpList_look_set rfl _ _ rfl mm M rfl HMX.out e rfl HEe.out.e7 ?_; rw [← HZ.out]) | (go_at_call 88; refine (class_any HCX.out HG.out HEe.out).mono ?_; rintro r w2 ⟨v1, V, rfl, ho, hn, hEV, h1, hmV, hb2⟩; have HO1 := Lib.hid ho; have HN := Lib.hid hn; have HEV := Lib.hid hEV; have HV0 := Lib.hid (List.length_pos_of_mem h1); have HMV := Lib.hid hmV; have HB2 := Lib.hid hb2; clear ho hn hEV h1 hmV hb2) | (go_at_call 64; refine (sorted_any HO1.out HEV.out HV0.out (by have := els_len HN.out (fun x hx => (HEV.out x hx).e7); omega)).mono ?_; rintro r w3 ⟨cv, C, rfl, hp, ha, ho, hb3⟩; obtain ⟨gc, cc, rfl⟩ := ho.form (by rw [hp.length_eq]; exact HV0.out); have HP := Lib.hid hp; have HA := Lib.hid ha; have HO := Lib.hid ho; have HB3 := Lib.hid hb3; clear hp ha ho hb3))
        have hw3 := HBQ.out.trans ((HB2.out.trans (HB3.out.mono HB2.out.size)).mono HBQ.out.size)
        have hcc : C.length ≤ 823543 := by rw [HP.out.length_eq]; exact els_len HN.out (fun x hx => (HEV.out x hx).e7)
        have HEC := Lib.hid (show ∀ x ∈ C, El x from fun x hx => HEV.out x (HP.out.mem_iff.1 hx))
        have HCC := Lib.hid (cls_sorted HG.out HSP.out HSA.out HMe.out HN.out HMV.out HP.out HA.out)
        have hcl : clsTo S (k + 1) = clsTo S k ++ [C] := by
          have h : ¬ e ∈ (clsTo S k).flatten := fun h => of_decide_eq_false HZ.out.symm ((HMM.out e).2 h)
          rw [HE.out] at h
          rw [HCC.out, HE.out]
          show (if _ then _ else _) = _
          rw [if_neg h]
        have HCl := Lib.hid hcl
        have R3 := Lib.hid (HR.out.below hw3)
        have S3 := Lib.hid (HS.out.below' hw3)
        have M3 := Lib.hid (show Met w3 mm (k * 823543 + 0) (fun x => x ∈ (clsTo S k).flatten ∨ x ∈ C.take 0) from ⟨M, HMX.out.below ((HB2.out.trans (HB3.out.mono HB2.out.size))), Nat.le_trans HML.out (Nat.le_add_right _ _), fun x => by simp [HMM.out x]⟩)
        have B3 := Lib.hid (HB.out.trans (hw3.mono HB.out.size))
        have O3 := Lib.hid (HO.out.mono (by have h1 := HB.out.size; have h2 := HBQ.out.size; have h3 := HB2.out.size; omega : w.heap.size ≤ _))
        clear hw3 hcl HRg HQ0 HQ HBQ HBX HRX HSX HMX HML HMM HCX HZ HO1 HV0 HB2 HB3 HP HA HO HN HEV HMV HB HR HM HS
        go_loopw [30] (fun i wr => ∃ j : Nat, i = .int .i64 j ∧ j ≤ C.length ∧ Hid (CRow w.heap.size wr u3 (clsTo S k)) ∧ Hid (Met wr mm (k * 823543 + j) (fun x => x ∈ (clsTo S k).flatten ∨ x ∈ C.take j)) ∧ Hid (Oel w.heap.size wr (.slice (some ⟨gs, 0, none⟩) S.length cs) S) ∧ Hid (Oel w.heap.size wr (.slice (some ⟨gc, 0, none⟩) C.length cc) C) ∧ Hid (Below w.heap.size w wr)) (fun i _ => C.length - (intOf i).toNat)
        case atStart => exact ⟨0, rfl, Nat.zero_le _, R3, M3, S3, O3, B3⟩
        case round =>
          clear R3 M3 S3 O3 B3
          obtain ⟨j, rfl, hj, R3, M3, S3, O3, B3⟩ := hrel
          by_cases hjl : j < C.length
          · have hr := O3.out.range (fun x hx => (HEC.out x hx).2) j hjl
            obtain ⟨b, hb⟩ : ∃ b, b = C.getD j [] := ⟨_, rfl⟩
            have hEb : El b := by rw [hb]; exact HEC.out _ (getD_mem hjl)
            rw [← hb] at hr
            have HRb := Lib.hid hr
            have HBb := Lib.hid hb
            have HEb := Lib.hid hEb
            have Q0 := Lib.hid (Blk.new wr 78 #[.int .u8 0, .int .u8 0, .int .u8 0, .int .u8 0, .int .u8 0, .int .u8 0, .int .u8 0])
            have Q1 := Lib.hid (Blk.setRow Q0.out (u8s b))
            have BQ := Lib.hid (below_row ((Below.refl wr.heap.size wr).alloc (Nat.le_refl _) (.cells #[.int .u8 0, .int .u8 0, .int .u8 0, .int .u8 0, .int .u8 0, .int .u8 0, .int .u8 0] 78)) wr.heap.size (u8s b) (Nat.le_refl _))
            have R4 := Lib.hid (R3.out.below BQ.out)
            have S4 := Lib.hid (S3.out.below' BQ.out)
            have O4 := Lib.hid (O3.out.below' BQ.out)
            have B4 := Lib.hid (B3.out.trans (BQ.out.mono B3.out.size))
            obtain ⟨M, hm, hml, hM⟩ := M3.out
            have M4 := Lib.hid (hm.below BQ.out)
            have HML := Lib.hid hml
            have HMM := Lib.hid hM
            clear hr hb hEb hm hml hM
            go_wp2_with (first | (refine wpList_load_mid rfl 78 _ rfl gc (j * 7) rfl (b.map (Value.int .u8)) _ HRb.out Try.underlying78 rfl (info7 HEb.out) ?_) | (refine wpList_store_row rfl 78 _ _ rfl wr.heap.size (u8s b) rfl rfl 78 #[.int .u8 0, .int .u8 0, .int .u8 0, .int .u8 0, .int .u8 0, .int .u8 0, .int .u8 0] Q0.out (infoElem' HEb.out.2) (by rw [size_u8s, HEb.out.2]; rfl) (u8s_one b) ?_) | (refine wpList_load_row rfl 78 _ rfl wr.heap.size rfl 78 (u8s b) (0, 0) _ Q1.out Try.underlying78 rfl (infoElem' HEb.out.2) ?_) | (refine wpList_put_set rfl _ _ _ rfl mm M rfl M4.out (by have := HML.out; unfold maxLen; omega) b rfl rfl HEb.out.e7 ?_; intro w5 hm5 hg5; have R5 := Lib.hid (R4.out.map M4.out hg5); have S5 := Lib.hid (show Oel w.heap.size w5 _ S from M4.out.row S4.out hg5); have O5 := Lib.hid (show Oel w.heap.size w5 _ C from M4.out.row O4.out hg5); have B5 := Lib.hid (B4.out.grown hg5 B4.out.size (fun r e => by have := HMW.out; have := Option.some.inj e; omega)); have M5 := Lib.hid hm5; clear hm5 hg5))
            have M6 := Lib.hid (show Met w5 mm (k * 823543 + (j + 1)) (fun x => x ∈ (clsTo S k).flatten ∨ x ∈ C.take (j + 1)) from ⟨b :: M, M5.out, by have := HML.out; simp; omega, fun x => by
              show _ ↔ _ ∨ _
              rw [List.take_succ_eq_append_getElem hjl, List.mem_append (s := C.take j), List.mem_cons, HMM.out x, List.mem_singleton, HBb.out, show C.getD j [] = C[j] by simp [hjl]]
              constructor
              · rintro (h | h | h)
                · exact .inr (.inr h)
                · exact .inl h
                · exact .inr (.inl h)
              · rintro (h | h | h)
                · exact .inr (.inl h)
                · exact .inr (.inr h)
                · exact .inl h⟩)
            go_roundw
            case rel => exact ⟨j + 1, by go_num, by omega, R5, M6, S5, O5, B5⟩
            case measure => simp [intOf]; omega
          · have hje : j = C.length := by omega
            obtain ⟨M, hm, hml, hM⟩ := M3.out
            rw [hje] at hM hml
            have HM4 := Lib.hid hm
            have HML := Lib.hid hml
            have HMM := Lib.hid hM
            obtain ⟨xs, x1, x2, x3⟩ := R3.out
            have X1 := Lib.hid x1
            have X2 := Lib.hid x2
            have X3 := Lib.hid x3
            have hxl : xs.length ≤ 823543 := by have := clsTo_len S k; omega
            have hsw := B3.out.size
            clear hm hml hM x1 x2 x3 hje
            go_wp2_with (at_builtin; go_loud (refine wpList_append_own _ rfl _ _ 82 rfl w.heap.size 72 i0 (.slice none 0 0) 1 24 Try.underlying82 hi hz0 hz1 hz2 rfl (by decide) u3 xs.length xs rfl (X2.out.alloc _) ⟨wr.heap.size, 0, none⟩ 1 1 [.slice (some ⟨gc, 0, none⟩) C.length cc] rfl rfl (cell_one_new _ _ _) (by simp [Value.oneCell']) (by unfold maxLen; omega) (by omega) (by simp; omega) ?_; intro v' w7 hown' hgrow _))
            have ht := row_typ (X2.out.alloc (.cells #[.slice (some ⟨gc, 0, none⟩) C.length cc] 72))
            have R7 := Lib.hid (show CRow w.heap.size w7 v' (clsTo S (k + 1)) by rw [HCl.out]; exact CRow.push X1.out X2.out X3.out O3.out hown' hgrow)
            have S7 := Lib.hid (show Oel w.heap.size w7 (.slice (some ⟨gs, 0, none⟩) S.length cs) S from row_other (World.ownsRow.alloc S3.out _) hgrow ht (by decide))
            have B7 := Lib.hid ((B3.out.alloc hsw (.cells #[.slice (some ⟨gc, 0, none⟩) C.length cc] 72)).grown hgrow (by simp; omega) (fun r e => (X2.out.lt r e).1))
            have M7 := Lib.hid (show Met w7 mm ((k + 1) * 823543) (fun x => x ∈ (clsTo S (k + 1)).flatten) from ⟨M, (HM4.out.below ((Below.refl wr.heap.size wr).alloc (Nat.le_refl _) _)).other hgrow ht, by have := HML.out; omega, fun x => by rw [HCl.out, HMM.out x, List.take_length]; simp⟩)
            clear hown' hgrow ht
            go_wp2
            go_roundw
            case rel => exact ⟨k + 1, by go_num, by omega, R7, M7, S7, B7⟩
            case measure => simp [intOf]; omega
    · have hke : k = S.length := by omega
      have HR2 := Lib.hid (show CRow w.heap.size wr u3 (clsTo S S.length) by rw [← hke]; exact HR.out)
      clear hke
      go_wp2
      go_ret
      exact ⟨u3, S, rfl, HSP.out, HSA.out, HR2.out, HB.out⟩
end Go.Proofs.Ytjnjhfificpbbaa
namespace Go.Proofs.Ytjnjhfificpbbaa
open Go Go.RowKit

/-- a row of the call's own of lists of permutations, all its own -/
def QRow (B : Nat) (w : World) (v : Value) (Qs : List (List (List Int))) : Prop := ∃ xs : List Value, xs.length = Qs.length ∧ w.ownsRow B 22 1 v xs.length xs ∧ ∀ i, i < Qs.length → Owp B w (xs.getD i undef) (Qs.getD i [])
theorem QRow.below {B : Nat} {w w' : World} {v : Value} {Qs : List (List (List Int))} (h : QRow B w v Qs) (hb : Below w.heap.size w w') : QRow B w' v Qs := by
  obtain ⟨xs, h1, h2, h3⟩ := h
  exact ⟨xs, h1, row_below h2 hb, fun i hi => (h3 i hi).below' hb⟩
theorem QRow.nil (B : Nat) (w : World) : QRow B w (.slice none 0 0) [] := ⟨[], rfl, World.ownsRow_nil _ _ _ _, fun i hi => by cases hi⟩
theorem QRow.mono {B B' : Nat} {w : World} {v : Value} {Qs : List (List (List Int))} (h : QRow B w v Qs) (hB : B' ≤ B) : QRow B' w v Qs := by
  obtain ⟨xs, h1, h2, h3⟩ := h
  refine ⟨xs, h1, ⟨h2.1, ?_⟩, fun i hi => (h3 i hi).mono hB⟩
  rcases h2.2 with h | ⟨g, cap, cur, e1, e2, e3⟩
  · exact .inl h
  · exact .inr ⟨g, cap, cur, e1, Nat.le_trans hB e2, e3⟩
theorem QRow.push {B : Nat} {w w' : World} {v v' y : Value} {o : Obj} {Qs : List (List (List Int))} {Q : List (List Int)} {xs : List Value} (hl : xs.length = Qs.length) (h : w.ownsRow B 22 1 v xs.length xs) (hx : ∀ i, i < Qs.length → Owp B w (xs.getD i undef) (Qs.getD i [])) (hy : Owp B w y Q)
    (ho : w'.ownsRow B 22 1 v' (xs.length + 1) (xs ++ [y])) (hg : (w.alloc o).grownBy w' v.ownBlock) : QRow B w' v' (Qs ++ [Q]) := by
  have ht : ∀ b, v.ownBlock = some b → ∃ cur, (w.alloc o).heap[b]? = some (.cells cur 22 (0, 0)) := row_typ (h.alloc _)
  have keep : ∀ {x q}, Owp B w x q → Owp B w' x q := fun {x q} hx => (hx.alloc o).other hg ht (by decide) (by decide)
  refine ⟨xs ++ [y], by simp [hl], by rw [List.length_append]; exact ho, fun i hi => ?_⟩
  rw [List.length_append] at hi
  simp only [List.length_cons, List.length_nil] at hi
  by_cases e : i < Qs.length
  · rw [List.getD_eq_getElem?_getD, List.getElem?_append_left (by omega), ← List.getD_eq_getElem?_getD, List.getD_eq_getElem?_getD (l := Qs ++ [Q]), List.getElem?_append_left e, ← List.getD_eq_getElem?_getD]
    exact keep (hx i e)
  · have e0 : i = Qs.length := by omega
    have e1 : (xs ++ [y]).getD i undef = y := by rw [e0, ← hl]; simp
    have e2 : (Qs ++ [Q]).getD i [] = Q := by rw [e0]; simp
    rw [e1, e2]; exact keep hy
theorem QRow.spss {B : Nat} {w : World} {v : Value} {Qs : List (List (List Int))} (h : QRow B w v Qs) : Spss w v Qs := by
  obtain ⟨xs, h1, h2, h3⟩ := h
  exact VRow.spss (xs := xs) h2 h1 fun i hi => (h3 i hi).sps
theorem clsTo_pos (S : List (List Int)) : ∀ k, 0 < k → 0 < (clsTo S k).length
  | k + 1, _ => by
    unfold clsTo
    split
    · rename_i h
      obtain ⟨C, hC, _⟩ := List.mem_flatten.1 h
      exact List.length_pos_of_mem hC
    · simp
theorem row_cell1 {B g n cap : Nat} {e : TypeId} {w : World} {xs : List Value} (h : w.ownsRow B e 1 (.slice (some ⟨g, 0, none⟩) n cap) xs.length xs) {i : Nat} (hi : i < xs.length) : w.cell? ⟨g, i, none⟩ = some (xs.getD i undef) := by
  have hn : n = xs.length := by
    rcases h.2 with ⟨e, _⟩ | ⟨g, cap, cur, e, _⟩
    · cases e
    · cases e; rfl
  subst hn
  rw [World.ownsRow.cellAt h i (by omega)]
  simp [hi]

set_option maxRecDepth 100000 in
set_option maxHeartbeats 4000000 in
theorem Classes_ok (u : Value) (ps : List (List Int)) (w : World) (h : Sps w u ps) (hp : IsGrp ps) :
    Calls Try.prog 26 #[u] w fun e w' => Below w.heap.size w w' ∧ ∃ x G L S, e = .returned (.tuple #[x, .int .i64 0]) ∧ Grp G L ∧ (∀ a, a ∈ L ↔ Gen (pks ps) a) ∧ S.Perm L ∧ Asc S ∧ QRow w.heap.size w' x ((clsTo S S.length).map fun C => C.map (List.take (ps.getD 0 []).length)) := by
  obtain ⟨i0, hi, hz0, hz1, hz2⟩ := info_parts infoPs
  have HH := Lib.hid h
  have HP := Lib.hid hp
  obtain ⟨a, cap, rfl, _⟩ := h
  obtain ⟨l, hl⟩ : ∃ l, l = ps.length := ⟨_, rfl⟩
  rw [← hl] at HH ⊢
  obtain ⟨n, hn⟩ : ∃ n, n = (ps.getD 0 []).length := ⟨_, rfl⟩
  have HN := Lib.hid hn
  rw [← hn]
  have h7 : n ≤ 7 := by rw [hn]; exact hp.seven
  clear hp hl hn
  go_enter Try.func26, Try.ntmps26
  go_wp2_with fail
  refine (closedOf_any _ ps _ HH.out HP.out.small).mono ?_
  rintro e w1 ⟨hb1, hcase⟩
  obtain ⟨_, c, m, vg, vl, G, L, rfl, ho, hm⟩ := hcase.resolve_left (fun h => h.1 HP.out)
  rw [← HN.out] at ho
  have HO := Lib.hid ho.clo
  have HG := Lib.hid ho.grp
  have HM := Lib.hid hm
  have HB1 := Lib.hid hb1
  clear ho hm hb1 hcase
  go_wp2_with fail
  refine (classes_any HO.out HG.out).mono ?_
  rintro e w2 ⟨cv, S, rfl, hsp, hsa, hcr, hb2⟩
  have hlen := HG.out.len
  have h0 : 0 < L.length := List.length_pos_of_mem HG.out.one
  have hsl : S.length ≤ 823543 := by rw [hsp.length_eq]; exact hlen
  have hpos := clsTo_pos S S.length (by rw [hsp.length_eq]; exact h0)
  have hcl := clsTo_len S S.length
  have HES := Lib.hid (show ∀ x ∈ S, El x from fun x hx => HG.out.els x (hsp.mem_iff.1 hx))
  have HSub := Lib.hid (clsTo_sub S S.length)
  have HSP := Lib.hid hsp
  have HSA := Lib.hid hsa
  obtain ⟨Cs, hCs⟩ : ∃ Cs, Cs = clsTo S S.length := ⟨_, rfl⟩
  rw [← hCs] at hcr hpos hcl HSub
  have HCs := Lib.hid hCs
  obtain ⟨xs, x1, x2, x3⟩ := hcr
  obtain ⟨N, hN⟩ : ∃ N, N = xs.length := ⟨_, rfl⟩
  have HN1 := Lib.hid hN
  have HN2 := Lib.hid (hN.trans x1)
  have hNp : 0 < N := by omega
  have hNl : N ≤ 823543 := by omega
  have HX2 := Lib.hid x2
  have HX3 := Lib.hid x3
  obtain ⟨gc, cc, rfl⟩ : ∃ gc cc, cv = .slice (some ⟨gc, 0, none⟩) N cc := by
    rcases x2.2 with ⟨_, e⟩ | ⟨g, cap, cur, e, _⟩
    · omega
    · exact ⟨g, cap, by rw [e, ← hN]⟩
  have hgc := (World.ownsRow.lt x2 gc rfl).2
  have HB2 := Lib.hid (HB1.out.trans (hb2.mono HB1.out.size))
  have HO2 := Lib.hid (HO.out.below hb2)
  obtain ⟨Qs, hQs⟩ : ∃ Qs, Qs = Cs.map fun C => C.map (List.take n) := ⟨_, rfl⟩
  have HQs := Lib.hid hQs
  clear hsp hsa x1 x2 x3 hb2 hCs hN hpos hcl hsl h0 hlen HO hQs
  go_wp2_with fail
  go_loopw [6, 20] (fun v i wr => ∃ k : Nat, i = .int .i64 k ∧ k ≤ N ∧ Hid (QRow w2.heap.size wr v (Qs.take k)) ∧ Hid (Below w2.heap.size w2 wr)) (fun _ i _ => N - (intOf i).toNat)
  case atStart => exact ⟨0, rfl, Nat.zero_le _, Lib.hid (QRow.nil _ _), Lib.hid (Below.refl _ _)⟩
  case round =>
    obtain ⟨k, rfl, hk, HR, HB⟩ := hrel
    by_cases hlt : k < N
    · have c1 := (HB.out.cell (p := ⟨gc, k, none⟩) hgc).trans (row_cell1 HX2.out (i := k) (by rw [← HN1.out]; exact hlt))
      have hO := (HX3.out k (by rw [← HN2.out]; exact hlt)).below' HB.out
      obtain ⟨C, hC⟩ : ∃ C, C = Cs.getD k [] := ⟨_, rfl⟩
      rw [← hC] at hO
      have hmC : C ∈ Cs := by rw [hC]; have : k < Cs.length := by rw [← HN2.out]; exact hlt
                              simp [this]
      obtain ⟨e0, he0⟩ := HSub.out C hmC
      have hE7 : ∀ x ∈ C, E7 x := fun x hx => by rw [he0] at hx; exact (HES.out x (List.mem_filter.1 hx).1).e7
      have hCl : C.length ≤ 900000 := by
        have h1 := clsOf_len S e0
        rw [← he0] at h1
        have h2 := HSP.out.length_eq
        have h3 := HG.out.len
        omega
      obtain ⟨y, hy⟩ : ∃ y, y = xs.getD k undef := ⟨_, rfl⟩
      rw [← hy] at c1 hO
      have HOc := Lib.hid hO
      have HE7 := Lib.hid hE7
      have HCl := Lib.hid hCl
      have hq0 := (HO2.out.below HB.out).cells.cell 0
      have HTk := Lib.hid (show Qs.take (k + 1) = Qs.take k ++ [C.map (List.take n)] from by
        have hkq : k < Qs.length := by rw [HQs.out, List.length_map, ← HN2.out]; exact hlt
        rw [List.take_succ_eq_append_getElem hkq]
        have hkc : k < Cs.length := by rw [← HN2.out]; exact hlt
        have : Qs[k] = C.map (List.take n) := by simp only [HQs.out, List.getElem_map]; rw [hC]; simp [hkc]
        rw [this])
      clear hC hmC he0 hE7 hCl hy hO
      have hzb := HB.out.size
      have hqk : (Qs.take k).length ≤ 823543 := by rw [List.length_take]; omega
      go_wp2_with (first | (go_at_call 63; refine (unpackAll_any _ _ C n _ HOc.out HE7.out h7 HCl.out).mono ?_; rintro r w3 ⟨x, rfl, hx, hb3⟩; have HX := Lib.hid (hx.mono hzb); obtain ⟨qa, qc, hqe, _⟩ := hx.sps; subst hqe; obtain ⟨ys, y1, y2, y3⟩ := HR.out.below hb3; have Y1 := Lib.hid y1; have Y2 := Lib.hid y2; have Y3 := Lib.hid y3; have HB3 := Lib.hid (HB.out.trans (hb3.mono hzb)); have hsw := HB3.out.size; have hyl : ys.length ≤ 823543 := (by rw [y1]; exact hqk); obtain ⟨lq, hlq⟩ : ∃ lq, lq = (C.map (List.take n)).length := ⟨_, rfl⟩; rw [← hlq] at HX ⊢; clear hx hb3 y1 y2 y3 hlq) | (at_builtin; go_loud (refine wpList_append_own _ rfl _ _ 33 rfl w2.heap.size 22 i0 (.slice none 0 0) 1 24 Try.underlying33 hi hz0 hz1 hz2 rfl (by decide) u6 ys.length ys rfl (Y2.out.alloc _) ⟨w3.heap.size, 0, none⟩ 1 1 [.slice qa lq qc] rfl rfl (cell_one_new _ _ _) (by simp [Value.oneCell']) (by unfold maxLen; omega) (by omega) (by simp; omega) ?_; intro v' w4 hown' hgrow _)))
      have R4 := Lib.hid (show QRow w2.heap.size w4 v' (Qs.take (k + 1)) by rw [HTk.out]; exact QRow.push Y1.out Y2.out Y3.out HX.out hown' hgrow)
      have B4 := Lib.hid ((HB3.out.alloc hsw (.cells #[.slice qa lq qc] 22)).grown hgrow (by simp; omega) (fun r e => (Y2.out.lt r e).1))
      clear hown' hgrow
      go_wp2
      go_roundw
      case rel => exact ⟨k + 1, by go_num, by omega, R4, B4⟩
      case measure => simp [intOf]; omega
    · have hke : k = Qs.length := by rw [HQs.out, List.length_map, ← HN2.out]; omega
      have R4 := Lib.hid (show QRow w.heap.size wr u6 ((clsTo S S.length).map fun C => C.map (List.take n)) by
        have h := HR.out
        rw [hke, List.take_length, HQs.out, HCs.out] at h
        exact h.mono HB2.out.size)
      have B4 := Lib.hid (HB2.out.trans (HB.out.mono HB2.out.size))
      clear hke
      go_wp2
      go_ret2
      exact ⟨B4.out, u6, G, L, S, rfl, HG.out, HM.out, HSP.out, HSA.out, R4.out⟩
end Go.Proofs.Ytjnjhfificpbbaa
namespace Go.Proofs.Ytjnjhfificpbbaa
open Go Go.RowKit

theorem QRow.set {B g i : Nat} {w : World} {v u : Value} {Qs : List (List (List Int))} {cs : Array Value} (h : QRow B w v Qs) (hb : Blk w g 4 cs) : QRow B (w.setCell ⟨g, i, none⟩ u) v Qs := by
  obtain ⟨xs, h1, h2, h3⟩ := h
  refine ⟨xs, h1, row_set h2 hb (by decide), fun i hi => ?_⟩
  obtain ⟨vs, k1, k2, k3⟩ := h3 i hi
  exact ⟨vs, k1, row_set k2 hb (by decide), fun j hj => row_set (k3 j hj) hb (by decide)⟩
/-- the conjugates of p -/
def cjs (ps : List (List Int)) (p : List Int) (k : Nat) : List (List Int) := (ps.take k).map fun c => conjP c p
theorem cjs_succ {ps : List (List Int)} {p : List Int} {k : Nat} (hk : k < ps.length) : cjs ps p (k + 1) = cjs ps p k ++ [conjP (ps.getD k []) p] := by
  unfold cjs
  rw [List.take_succ_eq_append_getElem hk, List.map_append]
  simp [hk]
theorem cls_mem {ps : List (List Int)} (hg : IsGrp ps) {p q : List Int} (hp : p ∈ ps) (hv : validL q = true) (hl : q.length = (ps.getD 0 []).length) : (rankL q : Int) ∈ rks (cjs ps p ps.length) ↔ pk7 q ∈ clsOf (pks ps) (pk7 p) := by
  obtain ⟨pv, pl⟩ := hg.1.mem hp
  have hcv : ∀ x ∈ cjs ps p ps.length, validL x = true ∧ x.length = (ps.getD 0 []).length := fun x hx => by
    unfold cjs at hx
    rw [List.take_length] at hx
    obtain ⟨c, hc, rfl⟩ := List.mem_map.1 hx
    obtain ⟨v1, l1⟩ := hg.1.mem hc
    obtain ⟨v2, l2⟩ := conjP_valid v1 pv (l1.trans pl.symm)
    exact ⟨v2, l2.trans l1⟩
  rw [rks_mem hcv hv hl]
  unfold cjs clsOf
  rw [List.take_length, List.mem_map, List.mem_filter, decide_eq_true_iff, List.mem_map]
  constructor
  · rintro ⟨c, hc, rfl⟩
    obtain ⟨v1, l1⟩ := hg.1.mem hc
    rw [pk7_conj v1 pv (l1.trans pl.symm)]
    have m1 : pk7 c ∈ pks ps := List.mem_map.2 ⟨c, hc, rfl⟩
    have m2 : pk7 p ∈ pks ps := List.mem_map.2 ⟨p, hp, rfl⟩
    have g1 := Gen.of_mem hg.1.els m1
    exact ⟨hg.2.2 _ (((g1.inv hg.1.els).mul hg.1.els (Gen.of_mem hg.1.els m2)).mul hg.1.els g1), _, m1, rfl⟩
  · rintro ⟨_, y, hy, e⟩
    obtain ⟨c, hc, rfl⟩ := List.mem_map.1 hy
    obtain ⟨v1, l1⟩ := hg.1.mem hc
    refine ⟨c, hc, pk7_same ?_ ?_⟩
    · rw [(conjP_valid v1 pv (l1.trans pl.symm)).2, l1, hl]
    · rw [pk7_conj v1 pv (l1.trans pl.symm)]; exact e
theorem cls_list {ps : List (List Int)} (hg : IsGrp ps) {p : List Int} (hp : p ∈ ps) : rl (ps.getD 0 []).length (rks (cjs ps p ps.length)) = (clsOf (pks ps) (pk7 p)).map (List.take (ps.getD 0 []).length) := by
  have hv0 := (validL_iff _).1 (hg.1.2.2 0 hg.1.1).1
  obtain ⟨e1, e2⟩ := pks_rise (grp_len hg) (grp_pair hg)
  refine (perms_lists (L := clsOf (pks ps) (pk7 p)) (P := fun a => a ∈ clsOf (pks ps) (pk7 p)) hv0.1 hg.seven (List.Perm.refl _) (List.Pairwise.filter _ e2) (e1.filter _) (fun a ha => ?_) ⟨_, rfl, fun q hv hl => cls_mem hg hp hv hl⟩ (fun q _ _ => Iff.rfl)).symm
  obtain ⟨q, hq, rfl⟩ := List.mem_map.1 (List.mem_filter.1 ha).1
  exact ⟨q, (hg.1.mem hq).1, (hg.1.mem hq).2, rfl⟩
/-- the marks of a set of permutations -/
def MD (n : Nat) (D : List Int) (P : List Int → Prop) : Prop := ∀ q, validL q = true → q.length = n → ((rankL q : Int) ∈ D ↔ P (pk7 q))
/-- the classes, in the reference's order -/
def clsR (ps : List (List Int)) (k : Nat) : List (List (List Int)) := (clsTo (pks ps) k).map fun C => C.map (List.take (ps.getD 0 []).length)
theorem pks_getD {ps : List (List Int)} {i : Nat} (hi : i < ps.length) : (pks ps).getD i [] = pk7 (ps.getD i []) := by simp [pks, hi]
theorem cls_same {ps : List (List Int)} {i : Nat} (hi : i < ps.length) (h : pk7 (ps.getD i []) ∈ (clsTo (pks ps) i).flatten) : clsTo (pks ps) (i + 1) = clsTo (pks ps) i := by
  rw [← pks_getD hi] at h
  show (if _ then _ else _) = _
  rw [if_pos h]
theorem cls_more {ps : List (List Int)} {i : Nat} (hi : i < ps.length) (h : ¬ pk7 (ps.getD i []) ∈ (clsTo (pks ps) i).flatten) : clsTo (pks ps) (i + 1) = clsTo (pks ps) i ++ [clsOf (pks ps) (pk7 (ps.getD i []))] := by
  rw [← pks_getD hi] at h ⊢
  show (if _ then _ else _) = _
  rw [if_neg h]

set_option maxRecDepth 100000 in
set_option maxHeartbeats 4000000 in
theorem refCls_any (v : Value) (ps : List (List Int)) (w : World) (h : Sps w v ps) (hgg : IsGrp ps) :
    Calls Try.prog 35 #[v] w fun e w' => ∃ x, e = .returned x ∧ QRow w.heap.size w' x (clsR ps ps.length) ∧ Below w.heap.size w w' := by
  have hg := hgg.1
  obtain ⟨i0, hi0, hz0, hz1, hz2⟩ := info_parts infoPs
  obtain ⟨n, hn⟩ : ∃ n, n = (ps.getD 0 []).length := ⟨_, rfl⟩
  have hv0 := (validL_iff _).1 (hg.2.2 0 hg.1).1
  have h1 : 1 ≤ n := by rw [hn]; exact hv0.1
  have h7 : n ≤ 7 := by rw [hn]; exact hv0.2.1
  have HGG := Lib.hid hgg
  obtain ⟨a, cap, rfl, h⟩ := h
  obtain ⟨m, hm⟩ : ∃ m, m = ps.length := ⟨_, rfl⟩
  have hm1 : 1 ≤ m := by rw [hm]; exact hg.1
  have hm2 : m ≤ 5040 := by rw [hm]; exact hg.2.1
  rcases h with h | ⟨b, off, rfl, h⟩
  · rw [h] at hm; simp at hm; omega
  obtain ⟨x0, g0, s0⟩ := h 0 (by omega)
  rw [Nat.add_zero] at g0
  have hbw : b < w.heap.size := World.block_lt_of_cell? w _ g0
  obtain ⟨xa, xc, rfl, _⟩ := s0
  have HC := Lib.hid h
  have HM := Lib.hid hm
  have HN := Lib.hid hn
  have HG := Lib.hid hg
  rw [← hn] at g0
  rw [← hm]
  obtain ⟨F, hF⟩ : ∃ F, F = fact n := ⟨_, rfl⟩
  obtain ⟨f1, f2⟩ := fact_le n h7
  rw [← hF] at f1 f2
  have HF := Lib.hid hF
  clear hg hgg hv0 h hm hn hF
  go_enter Try.func35, Try.ntmps35
  go_wp2_with fail
  refine (SetOf_any n (.slice none 0 0) [] _ h1 h7 ⟨none, 0, rfl, .inl rfl⟩ (fun p hp => by simp at hp) (by simp)).mono ?_
  rintro e w1 ⟨g, rfl, hlo, hmk, hb1⟩
  unfold setV
  rw [← HF.out] at hmk ⊢
  have M1 := Lib.hid (show Blk _ g 4 (mkm F []) from hmk.alloc (.cells #[.int .i64 n, .slice (some ⟨g, 0, none⟩) F F] 63))
  have C1 := Lib.hid (Blk.new w1 63 #[.int .i64 n, .slice (some ⟨g, 0, none⟩) F F])
  have B1 := Lib.hid (hb1.alloc hb1.size (.cells #[.int .i64 n, .slice (some ⟨g, 0, none⟩) F F] 63))
  have HLo := Lib.hid hlo
  clear hmk hb1 hlo
  go_wp2_with fail
  obtain ⟨c, hc⟩ : ∃ c, c = w1.heap.size := ⟨_, rfl⟩
  rw [← hc] at C1 ⊢
  have HCg := Lib.hid (C1.out.ne M1.out (by decide))
  clear hc
  generalize w1.alloc (.cells #[.int .i64 n, .slice (some ⟨g, 0, none⟩) F F] 63) = w2 at *
  go_loopw [3, 5] (fun ov iv wr => ∃ (i : Nat) (D : List Int), iv = .int .i64 i ∧ i ≤ m ∧ Hid (QRow w.heap.size wr ov (clsR ps i)) ∧ Hid (Blk wr c 63 #[.int .i64 n, .slice (some ⟨g, 0, none⟩) F F]) ∧ Hid (Blk wr g 4 (mkm F D)) ∧ Hid (MD n D fun a => a ∈ (clsTo (pks ps) i).flatten) ∧ Hid (Below w.heap.size w wr)) (fun _ iv _ => m - (intOf iv).toNat)
  case atStart => exact ⟨0, [], rfl, Nat.zero_le _, Lib.hid (QRow.nil _ _), C1, M1, Lib.hid (fun q _ _ => by simp [clsTo]), B1⟩
  case round =>
    have HG0 := Lib.hid g0
    clear C1 M1 B1 g0
    obtain ⟨i, D, rfl, hi, HR, C1, M1, HD, B1⟩ := hrel
    by_cases hli : i < m
    · obtain ⟨wo, rfl⟩ : ∃ wo, wo = wr := ⟨wr, rfl⟩
      obtain ⟨x, x0, sx⟩ := HC.out i (by rw [← HM.out]; omega)
      obtain ⟨pv, pl⟩ := HG.out.2.2 i (by rw [← HM.out]; omega)
      rw [← HN.out] at pl
      have hpm : ps.getD i [] ∈ ps := by have : i < ps.length := by rw [← HM.out]; exact hli
                                         simp [this]
      obtain ⟨p, hp⟩ : ∃ p, p = ps.getD i [] := ⟨_, rfl⟩
      rw [← hp] at sx pv pl hpm
      have HSx := Lib.hid (sx.below B1.out)
      obtain ⟨xa, xc, e1, _⟩ := id sx
      rw [pl] at e1
      subst e1
      have CX := Lib.hid (show ∀ w', Below wo.heap.size wo w' → w'.cell? ⟨b, off + i, none⟩ = some (.slice xa n xc) from fun w' h => ((B1.out.trans (h.mono B1.out.size)).cell (p := ⟨b, off + i, none⟩) hbw).trans x0)
      have SX0 := Lib.hid sx
      have HX0 := Lib.hid x0
      have PV := Lib.hid pv
      have PL := Lib.hid pl
      have HP := Lib.hid hp
      have HPM := Lib.hid hpm
      have hR := (unrL_rank pv).2
      rw [pl, ← HF.out] at hR
      obtain ⟨R, hR0⟩ : ∃ R, R = rankL p := ⟨_, rfl⟩
      rw [← hR0] at hR
      have HR0 := Lib.hid hR0
      obtain ⟨z, hz⟩ : ∃ z, z = decide ((R : Int) ∈ D) := ⟨_, rfl⟩
      have HZ := Lib.hid hz
      have MZ := Lib.hid (show ∀ w', Below wo.heap.size wo w' → w'.cell? ⟨g, R, none⟩ = some (.bool z) from fun w' h => by rw [(M1.out.below h).cell R, mkm_get _ _ _ hR, hz])
      have CZ := Lib.hid (show ∀ w', Below wo.heap.size wo w' → w'.cell? ⟨c, 1, none⟩ = some (.slice (some ⟨g, 0, none⟩) F F) from fun w' h => by rw [(C1.out.below h).cell 1]; rfl)
      clear sx pv pl hp hpm x0 hR0 hz
      have hS : Below wo.heap.size wo wo.drew := below_drewN' (Below.refl _ _) 1
      go_wp2_with fail
      refine wp_region_held_all (S := fun w' => Below wo.heap.size wo w') (by kernel_rfl) ?_
      refine held_take (i := 0) (v := .pointer (some ⟨c, 1, none⟩)) rfl rfl (by kernel_rfl) (by kernel_rfl) (by kernel_rfl) (fun w' h => by go_simp) hS ?_
      refine held_take (i := 1) (v := .slice (some ⟨g, 0, none⟩) F F) rfl rfl (by kernel_rfl) (by kernel_rfl) (by kernel_rfl) (fun w' h => by have h1 := CZ.out w' h; go_simp) hS ?_
      refine held_take (i := 2) (v := .slice (some ⟨b, off, none⟩) m cap) rfl rfl (by kernel_rfl) (by kernel_rfl) (by kernel_rfl) (fun w' h => by go_simp) hS ?_
      refine held_take (i := 3) (v := .int .i64 i) rfl rfl (by kernel_rfl) (by kernel_rfl) (by kernel_rfl) (fun w' h => by go_simp) hS ?_
      refine held_take (i := 4) (v := .pointer (some ⟨b, off + i, none⟩)) rfl rfl (by kernel_rfl) (by kernel_rfl) (by kernel_rfl) (fun w' h => by go_simp) hS ?_
      simp [Act.put]
      refine held_take (i := 5) (v := .slice xa n xc) rfl rfl (by kernel_rfl) (by kernel_rfl) (by kernel_rfl) (fun w' h => by have h1 := CX.out w' h; go_simp) hS ?_
      refine held_only (i := 6) rfl rfl (by kernel_rfl) (wp_call_any 54 Try.func54 (by kernel_rfl) rfl _ _ rfl #[.slice xa n xc] rfl ((refrank_any _ p _ (HSx.out.below hS) (by have := PL.out; omega)).mono ?_))
      rintro e w5 ⟨rfl, j, rfl⟩
      have hS5 : Below wo.heap.size wo (wo.drew.drewN j) := below_drewN' hS j
      rw [← HR0.out]
      generalize wo.drew.drewN j = w5 at *
      refine ⟨_, rfl, hS5, ?_⟩
      clear hS
      simp [Act.put]
      refine held_take (i := 7) (v := .pointer (some ⟨g, R, none⟩)) rfl rfl (by kernel_rfl) (by kernel_rfl) (by kernel_rfl) (fun w' h => by go_simp) hS5 ?_
      refine held_take (i := 8) (v := .bool z) rfl rfl (by kernel_rfl) (by kernel_rfl) (by kernel_rfl) (fun w' h => by have h1 := MZ.out w' h; go_simp) hS5 ?_
      refine held_done (by kernel_rfl) ?_
      simp [Act.put]
      have R5 := Lib.hid (HR.out.below hS5)
      have C5 := Lib.hid (C1.out.below hS5)
      have M5 := Lib.hid (M1.out.below hS5)
      have B5 := Lib.hid (B1.out.trans (hS5.mono B1.out.size))
      clear hS5 CX CZ MZ HSx HR C1 M1 B1
      have HFl := Lib.hid (show (R : Int) ∈ D ↔ pk7 (ps.getD i []) ∈ (clsTo (pks ps) i).flatten from by rw [HR0.out, ← HP.out]; exact HD.out p PV.out PL.out)
      cases z with
      | true =>
        have hcl := cls_same (ps := ps) (i := i) (by rw [← HM.out]; exact hli) (HFl.out.1 (of_decide_eq_true HZ.out.symm))
        have R6 := Lib.hid (show QRow w.heap.size _ _ (clsR ps (i + 1)) by unfold clsR; rw [hcl]; exact R5.out)
        have D6 := Lib.hid (show MD n D fun a => a ∈ (clsTo (pks ps) (i + 1)).flatten by rw [hcl]; exact HD.out)
        clear hcl
        go_wp2_with fail
        go_roundw
        case rel => exact ⟨i + 1, D, by go_num, by omega, R6, C5, M5, D6, B5⟩
        case measure => simp [intOf]; omega
      | false =>
        have HCl := Lib.hid (cls_more (ps := ps) (i := i) (by rw [← HM.out]; exact hli) fun h => of_decide_eq_false HZ.out.symm (HFl.out.2 h))
        have c0 : w5.cell? ⟨b, off, none⟩ = some _ := (B5.out.cell (p := ⟨b, off, none⟩) hbw).trans HG0.out
        go_wp2_with fail
        refine (SetOf_any n (.slice none 0 0) [] _ h1 h7 ⟨none, 0, rfl, .inl rfl⟩ (fun p hp => by simp at hp) (by simp)).mono ?_
        rintro e w6 ⟨gt, rfl, hlo, hmk, hb6⟩
        unfold setV
        rw [← HF.out] at hmk ⊢
        have bb := hb6.alloc hb6.size (.cells #[.int .i64 n, .slice (some ⟨gt, 0, none⟩) F F] 63)
        have MT := Lib.hid (show Blk _ gt 4 (mkm F (rks (cjs ps p 0))) from hmk.alloc (.cells #[.int .i64 n, .slice (some ⟨gt, 0, none⟩) F F] 63))
        have CT := Lib.hid (Blk.new w6 63 #[.int .i64 n, .slice (some ⟨gt, 0, none⟩) F F])
        have R7 := Lib.hid (R5.out.below bb)
        have C7 := Lib.hid (C5.out.below bb)
        have M7 := Lib.hid (show Blk _ g 4 (mkm F (D ++ rks (cjs ps p 0))) by have h := M5.out.below bb; simpa [cjs, rks] using h)
        have B7 := Lib.hid (B5.out.trans (bb.mono B5.out.size))
        have HLt := Lib.hid (show w.heap.size ≤ gt from Nat.le_trans B5.out.size hlo)
        have HGg := Lib.hid (show g ≠ gt from fun h => by have := M5.out.lt; omega)
        clear bb hmk hb6 hlo c0 R5 C5 M5 B5
        go_wp2_with fail
        obtain ⟨ct, hct⟩ : ∃ ct, ct = w6.heap.size := ⟨_, rfl⟩
        rw [← hct] at CT ⊢
        have HTg := Lib.hid (CT.out.ne M7.out (by decide))
        have HTt := Lib.hid (CT.out.ne MT.out (by decide))
        have HCt := Lib.hid (C7.out.ne MT.out (by decide))
        clear hct
        generalize w6.alloc (.cells #[.int .i64 n, .slice (some ⟨gt, 0, none⟩) F F] 63) = w7 at *
        go_loopw [7] (fun kv wr => ∃ k : Nat, kv = .int .i64 k ∧ k ≤ m ∧ Hid (QRow w.heap.size wr u3 (clsR ps i)) ∧ Hid (Blk wr c 63 #[.int .i64 n, .slice (some ⟨g, 0, none⟩) F F]) ∧ Hid (Blk wr ct 63 #[.int .i64 n, .slice (some ⟨gt, 0, none⟩) F F]) ∧ Hid (Blk wr g 4 (mkm F (D ++ rks (cjs ps p k)))) ∧ Hid (Blk wr gt 4 (mkm F (rks (cjs ps p k)))) ∧ Hid (Below w.heap.size w wr)) (fun kv _ => m - (intOf kv).toNat)
        case atStart => exact ⟨0, rfl, Nat.zero_le _, R7, C7, CT, M7, MT, B7⟩
        case round =>
          clear R7 C7 CT M7 MT B7
          obtain ⟨k, rfl, hk, R7, C7, CT, M7, MT, B7⟩ := hrel
          by_cases hlk : k < m
          · obtain ⟨y, y0, sy⟩ := HC.out k (by rw [← HM.out]; omega)
            obtain ⟨qv, ql⟩ := HG.out.2.2 k (by rw [← HM.out]; omega)
            rw [← HN.out] at ql
            have hsn := cjs_succ (ps := ps) (p := p) (k := k) (by rw [← HM.out]; exact hlk)
            obtain ⟨q, hq⟩ : ∃ q, q = ps.getD k [] := ⟨_, rfl⟩
            rw [← hq] at sy qv ql hsn
            have HSy := Lib.hid (sy.below B7.out)
            have HSx := Lib.hid (SX0.out.below B7.out)
            obtain ⟨ya, yc, e2, _⟩ := id sy
            rw [ql] at e2
            subst e2
            obtain ⟨xa', xc', e3, _⟩ := id HSx.out
            rw [PL.out] at e3
            cases e3
            have CY := Lib.hid (show ∀ w', Below wr.heap.size wr w' → w'.cell? ⟨b, off + k, none⟩ = some (.slice ya n yc) from fun w' h => ((B7.out.trans (h.mono B7.out.size)).cell (p := ⟨b, off + k, none⟩) hbw).trans y0)
            have hxw := HX0.out
            have CX := Lib.hid (show ∀ w', Below wr.heap.size wr w' → w'.cell? ⟨b, off + i, none⟩ = some (.slice xa n xc) from fun w' h => ((B7.out.trans (h.mono B7.out.size)).cell (p := ⟨b, off + i, none⟩) hbw).trans hxw)
            obtain ⟨cv, cl⟩ := conjP_valid qv PV.out (ql.trans PL.out.symm)
            rw [ql] at cl
            have hR := (unrL_rank cv).2
            rw [cl, ← HF.out] at hR
            obtain ⟨r, hr0⟩ : ∃ r, r = rankL (conjP q p) := ⟨_, rfl⟩
            rw [← hr0] at hR
            have HS2 := Lib.hid (show rks (cjs ps p (k + 1)) = rks (cjs ps p k) ++ [(r : Int)] by rw [hsn, rks_snoc, hr0])
            have HR1 := Lib.hid hr0
            have CL := Lib.hid cl
            have QV := Lib.hid qv
            have QL := Lib.hid (ql.trans PL.out.symm)
            have hS : Below wr.heap.size wr wr.drew := below_drewN' (Below.refl _ _) 1
            clear sy y0 qv ql hq cv cl hr0 hsn hxw
            go_wp2_with fail
            refine wp_region_held_all (S := fun w' => Below wr.heap.size wr w') (by kernel_rfl) ?_
            refine held_take (i := 0) (v := .slice (some ⟨b, off, none⟩) m cap) rfl rfl (by kernel_rfl) (by kernel_rfl) (by kernel_rfl) (fun w' h => by go_simp) hS ?_
            refine held_take (i := 1) (v := .int .i64 k) rfl rfl (by kernel_rfl) (by kernel_rfl) (by kernel_rfl) (fun w' h => by go_simp) hS ?_
            refine held_take (i := 2) (v := .pointer (some ⟨b, off + k, none⟩)) rfl rfl (by kernel_rfl) (by kernel_rfl) (by kernel_rfl) (fun w' h => by go_simp) hS ?_
            refine held_take (i := 3) (v := .slice ya n yc) rfl rfl (by kernel_rfl) (by kernel_rfl) (by kernel_rfl) (fun w' h => by have h1 := CY.out w' h; go_simp) hS ?_
            refine held_take (i := 4) (v := .slice (some ⟨b, off, none⟩) m cap) rfl rfl (by kernel_rfl) (by kernel_rfl) (by kernel_rfl) (fun w' h => by go_simp) hS ?_
            simp [Act.put]
            refine held_take (i := 5) (v := .int .i64 i) rfl rfl (by kernel_rfl) (by kernel_rfl) (by kernel_rfl) (fun w' h => by go_simp) hS ?_
            refine held_take (i := 6) (v := .pointer (some ⟨b, off + i, none⟩)) rfl rfl (by kernel_rfl) (by kernel_rfl) (by kernel_rfl) (fun w' h => by go_simp) hS ?_
            refine held_take (i := 7) (v := .slice xa n xc) rfl rfl (by kernel_rfl) (by kernel_rfl) (by kernel_rfl) (fun w' h => by have h1 := CX.out w' h; go_simp) hS ?_
            simp [Act.put]
            refine held_only (i := 8) rfl rfl (by kernel_rfl) (wp_call_any 72 Try.func72 (by kernel_rfl) rfl _ _ rfl #[.slice ya n yc, .slice xa n xc] rfl ((refcj_any _ _ q p _ (HSy.out.below hS) (HSx.out.below hS) QV.out PV.out QL.out).mono ?_))
            rintro e w8 ⟨v8, rfl, hv8, hb8⟩
            have hS8 := hS.trans (hb8.mono hS.size)
            have HV8 := Lib.hid hv8.sl
            obtain ⟨va, vc, e1, _⟩ := hv8.sl
            rw [CL.out] at e1
            subst e1
            refine ⟨_, rfl, hS8, ?_⟩
            clear hv8 hb8
            simp [Act.put]
            refine held_only (i := 9) rfl rfl (by kernel_rfl) (wp_call_any 54 Try.func54 (by kernel_rfl) rfl _ _ rfl #[.slice va n vc] rfl ((refrank_any _ (conjP q p) _ HV8.out (by have := CL.out; omega)).mono ?_))
            rintro e w9 ⟨rfl, j, rfl⟩
            have hS9 : Below wr.heap.size wr (w8.drewN j) := below_drewN' hS8 j
            rw [← HR1.out]
            generalize w8.drewN j = w9 at *
            refine ⟨_, rfl, hS9, ?_⟩
            clear hS hS8
            simp [Act.put]
            refine held_take (i := 10) (v := .int .i64 r) rfl rfl (by kernel_rfl) (by kernel_rfl) (by kernel_rfl) (fun w' h => by go_simp) hS9 ?_
            refine held_done (by kernel_rfl) ?_
            simp [Act.put]
            have R9 := Lib.hid (R7.out.below hS9)
            have C9 := Lib.hid (C7.out.below hS9)
            have T9 := Lib.hid (CT.out.below hS9)
            have M9 := Lib.hid (M7.out.below hS9)
            have N9 := Lib.hid (MT.out.below hS9)
            have B9 := Lib.hid (B7.out.trans (hS9.mono B7.out.size))
            clear hS9 CX CY HSx HSy R7 C7 CT M7 MT B7 HV8
            have hS : w9.drew.cell? ⟨ct, 1, none⟩ = some (.slice (some ⟨gt, 0, none⟩) F F) ∧ w9.drew.cell? ⟨c, 1, none⟩ = some (.slice (some ⟨g, 0, none⟩) F F) := ⟨(T9.out.cell 1).trans rfl, (C9.out.cell 1).trans rfl⟩
            go_wp2_with fail
            refine wp_region_held_all (S := fun w' => w'.cell? ⟨ct, 1, none⟩ = some (.slice (some ⟨gt, 0, none⟩) F F) ∧ w'.cell? ⟨c, 1, none⟩ = some (.slice (some ⟨g, 0, none⟩) F F)) (by kernel_rfl) ?_
            refine held_take (i := 0) (v := .pointer (some ⟨ct, 1, none⟩)) rfl rfl (by kernel_rfl) (by kernel_rfl) (by kernel_rfl) (fun w' h => by go_simp) hS ?_
            refine held_take (i := 1) (v := .slice (some ⟨gt, 0, none⟩) F F) rfl rfl (by kernel_rfl) (by kernel_rfl) (by kernel_rfl) (fun w' h => by have h1 := h.1; go_simp) hS ?_
            refine held_take (i := 2) (v := .int .i64 r) rfl rfl (by kernel_rfl) (by kernel_rfl) (by kernel_rfl) (fun w' h => by go_simp) hS ?_
            refine held_take (i := 3) (v := .pointer (some ⟨c, 1, none⟩)) rfl rfl (by kernel_rfl) (by kernel_rfl) (by kernel_rfl) (fun w' h => by go_simp) hS ?_
            refine held_take (i := 4) (v := .slice (some ⟨g, 0, none⟩) F F) rfl rfl (by kernel_rfl) (by kernel_rfl) (by kernel_rfl) (fun w' h => by have h1 := h.2; go_simp) hS ?_
            simp [Act.put]
            refine held_take (i := 5) (v := .int .i64 r) rfl rfl (by kernel_rfl) (by kernel_rfl) (by kernel_rfl) (fun w' h => by go_simp) hS ?_
            refine held_take (i := 6) (v := .pointer (some ⟨gt, r, none⟩)) rfl rfl (by kernel_rfl) (by kernel_rfl) (by kernel_rfl) (fun w' h => by go_simp) hS ?_
            simp [Act.put]
            have k6 : w9.drew.cell? ⟨gt, r, none⟩ = some (.bool (decide ((r : Int) ∈ rks (cjs ps p k)))) := by rw [show w9.drew.cell? ⟨gt, r, none⟩ = w9.cell? ⟨gt, r, none⟩ from rfl, N9.out.cell r, mkm_get _ _ _ hR]
            have k7 : w9.drew.frozen? ⟨gt, r, none⟩ = false := N9.out.free r
            refine held_only (i := 7) rfl rfl (by kernel_rfl) ?_
            go_simp
            have T10 := Lib.hid (show Blk (w9.setCell ⟨gt, r, none⟩ (.bool true)) ct 63 #[.int .i64 n, .slice (some ⟨gt, 0, none⟩) F F] from T9.out.other gt r _ HTt.out)
            have C10 := Lib.hid (show Blk (w9.setCell ⟨gt, r, none⟩ (.bool true)) c 63 #[.int .i64 n, .slice (some ⟨g, 0, none⟩) F F] from C9.out.other gt r _ HCt.out)
            have M10 := Lib.hid (show Blk (w9.setCell ⟨gt, r, none⟩ (.bool true)) g 4 (mkm F (D ++ rks (cjs ps p k))) from M9.out.other gt r _ HGg.out)
            have N10 := Lib.hid (show Blk (w9.setCell ⟨gt, r, none⟩ (.bool true)) gt 4 (mkm F (rks (cjs ps p (k + 1)))) from by
              have h := N9.out.set r (.bool true)
              rwa [mkm_set, ← HS2.out] at h)
            have R10 := Lib.hid (show QRow w.heap.size (w9.setCell ⟨gt, r, none⟩ (.bool true)) u3 (clsR ps i) from R9.out.set N9.out)
            have B10 := Lib.hid (show Below w.heap.size w (w9.setCell ⟨gt, r, none⟩ (.bool true)) from B9.out.setCell HLt.out _)
            clear k6 k7 hS T9 C9 M9 N9 R9 B9
            generalize w9.setCell ⟨gt, r, none⟩ (.bool true) = wa at *
            have hS : wa.drew.cell? ⟨ct, 1, none⟩ = some (.slice (some ⟨gt, 0, none⟩) F F) ∧ wa.drew.cell? ⟨c, 1, none⟩ = some (.slice (some ⟨g, 0, none⟩) F F) := ⟨(T10.out.cell 1).trans rfl, (C10.out.cell 1).trans rfl⟩
            refine ⟨hS, ?_⟩
            refine held_take (i := 8) (v := .pointer (some ⟨g, r, none⟩)) rfl rfl (by kernel_rfl) (by kernel_rfl) (by kernel_rfl) (fun w' h => by go_simp) hS ?_
            simp [Act.put]
            have k6 : wa.drew.cell? ⟨g, r, none⟩ = some (.bool (decide ((r : Int) ∈ D ++ rks (cjs ps p k)))) := by rw [show wa.drew.cell? ⟨g, r, none⟩ = wa.cell? ⟨g, r, none⟩ from rfl, M10.out.cell r, mkm_get _ _ _ hR]
            have k7 : wa.drew.frozen? ⟨g, r, none⟩ = false := M10.out.free r
            refine held_only (i := 9) rfl rfl (by kernel_rfl) ?_
            go_simp
            have T11 := Lib.hid (show Blk (wa.setCell ⟨g, r, none⟩ (.bool true)) ct 63 #[.int .i64 n, .slice (some ⟨gt, 0, none⟩) F F] from T10.out.other g r _ HTg.out)
            have C11 := Lib.hid (show Blk (wa.setCell ⟨g, r, none⟩ (.bool true)) c 63 #[.int .i64 n, .slice (some ⟨g, 0, none⟩) F F] from C10.out.other g r _ HCg.out)
            have M11 := Lib.hid (show Blk (wa.setCell ⟨g, r, none⟩ (.bool true)) g 4 (mkm F (D ++ rks (cjs ps p (k + 1)))) from by
              have h := M10.out.set r (.bool true)
              rwa [mkm_set, List.append_assoc, ← HS2.out] at h)
            have N11 := Lib.hid (show Blk (wa.setCell ⟨g, r, none⟩ (.bool true)) gt 4 (mkm F (rks (cjs ps p (k + 1)))) from N10.out.other g r _ (Ne.symm HGg.out))
            have R11 := Lib.hid (show QRow w.heap.size (wa.setCell ⟨g, r, none⟩ (.bool true)) u3 (clsR ps i) from R10.out.set M10.out)
            have B11 := Lib.hid (show Below w.heap.size w (wa.setCell ⟨g, r, none⟩ (.bool true)) from B10.out.setCell HLo.out _)
            clear k6 k7 hS T10 C10 M10 N10 R10 B10
            generalize wa.setCell ⟨g, r, none⟩ (.bool true) = wb at *
            refine ⟨⟨(T11.out.cell 1).trans rfl, (C11.out.cell 1).trans rfl⟩, held_done (by kernel_rfl) ?_⟩
            have hdr : Below wb.heap.size wb wb.drew := below_drewN' (Below.refl _ _) 1
            have T12 := Lib.hid (T11.out.below hdr)
            have C12 := Lib.hid (C11.out.below hdr)
            have M12 := Lib.hid (M11.out.below hdr)
            have N12 := Lib.hid (N11.out.below hdr)
            have R12 := Lib.hid (R11.out.below hdr)
            have B12 := Lib.hid (B11.out.trans (hdr.mono B11.out.size))
            clear hdr T11 C11 M11 N11 R11 B11
            go_wp2_with fail
            go_roundw
            case rel => exact ⟨k + 1, by go_num, by omega, R12, C12, T12, M12, N12, B12⟩
            case measure => simp [intOf]; omega
          · have hke : k = ps.length := by rw [← HM.out]; omega
            rw [hke] at M7 MT
            have mt := MT.out
            rw [HF.out] at mt
            have HCall := Lib.hid (show Calls Try.prog 55 #[.agg #[.int .i64 n, .slice (some ⟨gt, 0, none⟩) F F]] wr fun e w' => ∃ x, e = .returned x ∧ Owp wr.heap.size w' x ((clsOf (pks ps) (pk7 p)).map (List.take n)) ∧ Below wr.heap.size wr w' from by
              have h := List_any n gt _ wr h1 h7 mt
              unfold setV at h
              rw [HN.out, cls_list HGG.out HPM.out, ← HN.out] at h
              rwa [← HF.out] at h)
            have k1 : wr.cell? ⟨ct, 0, none⟩ = some (.int .i64 n) := by rw [CT.out.cell 0]; rfl
            have k2 : wr.cell? ⟨ct, 1, none⟩ = some (.slice (some ⟨gt, 0, none⟩) F F) := by rw [CT.out.cell 1]; rfl
            have HQ := Lib.hid (show clsR ps (i + 1) = clsR ps i ++ [(clsOf (pks ps) (pk7 p)).map (List.take n)] from by unfold clsR; rw [HCl.out, List.map_append, ← HP.out, ← HN.out]; rfl)
            have HD2 := Lib.hid (show MD n (D ++ rks (cjs ps p ps.length)) fun a => a ∈ (clsTo (pks ps) (i + 1)).flatten from fun q hv hl => by
              rw [HCl.out, ← HP.out, List.mem_append, HD.out q hv hl, cls_mem HGG.out HPM.out hv (by rw [← HN.out]; exact hl)]
              simp)
            have hql : (clsR ps i).length ≤ 5040 := by unfold clsR; rw [List.length_map]; have := clsTo_len (pks ps) i; omega
            have hzb := B7.out.size
            clear hke mt MT
            go_wp2_with (first | (refine HCall.out.mono ?_; rintro e w8 ⟨x, rfl, hx, hb8⟩; have HX := Lib.hid (hx.mono hzb); obtain ⟨qa, qc, hqe, _⟩ := hx.sps; subst hqe; obtain ⟨ys, y1, y2, y3⟩ := R7.out.below hb8; have Y1 := Lib.hid y1; have Y2 := Lib.hid y2; have Y3 := Lib.hid y3; have B8 := Lib.hid (B7.out.trans (hb8.mono hzb)); have C8 := Lib.hid (C7.out.below hb8); have M8 := Lib.hid (M7.out.below hb8); have hsw := B8.out.size; have hyl : ys.length ≤ 5040 := (by rw [y1]; exact hql); obtain ⟨lq, hlq⟩ : ∃ lq, lq = ((clsOf (pks ps) (pk7 p)).map (List.take n)).length := ⟨_, rfl⟩; rw [← hlq] at HX ⊢; clear hx hb8 y1 y2 y3 hlq) | (at_builtin; go_loud (refine wpList_append_own _ rfl _ _ 33 rfl w.heap.size 22 i0 (.slice none 0 0) 1 24 Try.underlying33 hi0 hz0 hz1 hz2 rfl (by decide) u3 ys.length ys rfl (Y2.out.alloc _) ⟨w8.heap.size, 0, none⟩ 1 1 [.slice qa lq qc] rfl rfl (cell_one_new _ _ _) (by simp [Value.oneCell']) (by unfold maxLen; omega) (by omega) (by simp; omega) ?_; intro v' wc hown' hgrow _)))
            have ht := row_typ (Y2.out.alloc (.cells #[.slice qa lq qc] 22))
            have bb := (Below.refl w8.heap.size w8).alloc (Nat.le_refl _) (.cells #[.slice qa lq qc] 22)
            have R13 := Lib.hid (show QRow w.heap.size wc v' (clsR ps (i + 1)) by rw [HQ.out]; exact QRow.push Y1.out Y2.out Y3.out HX.out hown' hgrow)
            have C13 := Lib.hid ((C8.out.below bb).grown hgrow ht (by decide))
            have M13 := Lib.hid ((M8.out.below bb).grown hgrow ht (by decide))
            have B13 := Lib.hid ((B8.out.alloc hsw (.cells #[.slice qa lq qc] 22)).grown hgrow (by simp; omega) (fun r e => (Y2.out.lt r e).1))
            clear hown' hgrow ht bb
            go_wp2
            go_roundw
            case rel => exact ⟨i + 1, _, by go_num, by omega, R13, C13, M13, HD2, B13⟩
            case measure => simp [intOf]; omega
    · have hke : i = ps.length := by rw [← HM.out]; omega
      have R6 := Lib.hid (show QRow w.heap.size wr u3 (clsR ps m) by rw [HM.out, ← hke]; exact HR.out)
      clear hke
      go_wp2
      go_ret
      exact ⟨u3, rfl, R6.out, B1.out⟩
end Go.Proofs.Ytjnjhfificpbbaa
