/- (*closed).commutators. -/
import Derived.Test.YtjnjhfificpbbaaAddP
namespace Go.Proofs.Ytjnjhfificpbbaa
open Go Go.RowKit

theorem run_mid_op {o : Oper} {a : Act} {w : World} (ty : TypeId) (x : Operand) (ho : o.op = .load ty x) (b off : Nat) (hx : a.eval x = .pointer (some ⟨b, off, none⟩)) (cs : List Value) (d : TypeDesc) (hc : w.rangeAt b off cs)
    (hu : Try.prog.underlying ty = some d) (hd : d.isRow = true) (hi : (Try.prog.info? ty).map (·.size) = some cs.length) : (execOp a.eval o).run Try.prog w = .ok (.value (.agg cs.toArray)) w := by
  unfold execOp
  simp only [ho, hx, Instr.loadAt, Instr.sureAddr, Sem.run_bind, Sem.run_pure, Result.andThen_ok, run_loadVar_mid w b off ty cs d hc hu hd hi]
theorem run_mk_op {o : Oper} {a : Act} {w : World} (t : TypeId) (x y : Operand) (ho : o.op = .build t #[(0, x), (1, y)]) (p q r : List Int) (hx : a.eval x = .agg (u8s p)) (hy : a.eval y = .agg (u8s q))
    (hr : (Instr.build t #[(0, .agg (u8s p)), (1, .agg (u8s q))]).run Try.prog w = .ok (.agg (u8s r)) w) : (execOp a.eval o).run Try.prog w = .ok (.value (.agg (u8s r))) w := by
  unfold execOp
  simp only [ho, Sem.run_bind, Sem.run_pure, List.map_toArray, List.map_cons, List.map_nil, hx, hy, hr, Result.andThen_ok]
/-- a call of a function literal -/
theorem wp_call_fn {P : Program} {o : Oper} {a : Act} {w : World} {K : Act → World → Prop} {Q : Exit → Act → World → Prop} (f : FuncId) {fn : Func} (hf : P.funcs[f]? = some fn) (hnm : decide (fn.name = "runtime.NumGoroutine") = false) (hbd : fn.body.isNone = false)
    (x : Operand) (bound : Array Value) (hv : a.eval x = .func (.func f) #[] bound) (xs : Array Operand) (ts : Array TypeId) (ho : o.op = .call { callee := .value x, args := xs, argTypes := ts }) (args : Array Value) (hargs : (xs.toList.map a.eval) ++ bound.toList = args.toList)
    (hc : Calls P f args w fun e w' => ∃ v, e = .returned v ∧ K (a.put o.dst v) w') : o.wp P a w K Q := by
  have hxs : xs.map a.eval ++ bound = args := Array.toList_inj.1 (by rw [Array.toList_append, Array.toList_map, hargs])
  have e : (execOp a.eval o).run P w = .ok (.enter f (xs.map a.eval ++ bound)) w := by
    have h1 : ¬ fn.name = "runtime.NumGoroutine" := of_decide_eq_false hnm
    have h2 : ¬ fn.body = none := fun e => by rw [e] at hbd; cases hbd
    simp [execOp, ho, resolve, invoke, hv, Deferred.ofValue, callFunc, hf, h1, h2]
  unfold Oper.wp
  rw [e, Oper.upon_enter, hxs]
  refine hc.mono fun e w' ⟨v, he, hK⟩ => ?_
  subst he; exact hK

/-- one of those that may come up -/
theorem held_pick2 {P : Program} {ops : Array Oper} {T : Act → World → Prop} {i : Nat} {oi : Oper} {a : Act} {w : World} {K : Act → World → Prop} (hi : ops[i]? = some oi) (hg : oi.guard = none) (h : oi.wp P a w K (Only T)) : wpOp P ops (Only T) i K a w := by
  have e1 : Region.wanted oi (yielded ops a.tmps) = true := by simp [Region.wanted, hg]
  unfold wpOp
  simp only [hi, e1, if_true]
  exact .inl h
/-- a drawn region, cut at its end -/
theorem wp_region_cut2 {P : Program} {S : World → Prop} {Q' : Exit → Act → World → Prop} {id : Nat} {a : Act} {w : World} {l : List Oper} (T : Act → Act → World → Prop) (hm : P.follows .mixedOrders = true)
    (h : wpAnyH P .any l.toArray (Only fun a' w' => T a a' w') S l.length (Array.replicate l.length false) a w.drew) (hT : ∀ a' w', T a a' w' → Q' .normal a' w') : (Code.region id l.toArray true).wp P Q' a w :=
  wp_mono (wp_region_held (S := S) (Q := Only fun a' w' => T a a' w') hm h) fun e a' w' hq => by
    cases e <;> first | exact hT _ _ hq.2 | cases hq.1

/-- x has been met -/
def Cin (Lk : List (List Int)) (x : List Int) : Prop := x ∈ idL 7 :: Lk.map cmP
theorem Cin.more {Lk : List (List Int)} {x : List Int} (p : List Int) (h : Cin Lk x) : Cin (addP Lk p) x := by
  unfold addP
  split
  · exact h
  · unfold Cin at h ⊢
    rw [List.map_append, ← List.cons_append]
    exact List.mem_append.2 (.inl h)
theorem Cin.self (Lk : List (List Int)) (p : List Int) : Cin (addP Lk p) (cmP p) := by
  unfold addP
  split
  · assumption
  · unfold Cin
    simp
theorem addP_len (Lk : List (List Int)) (p : List Int) : Lk.length ≤ (addP Lk p).length := by
  unfold addP
  split <;> simp
theorem addP_getD {Lk : List (List Int)} (p : List Int) {i : Nat} (h : i < Lk.length) : (addP Lk p).getD i [] = Lk.getD i [] := by
  unfold addP
  split
  · rfl
  · exact gets_snoc p h
/-- pairs of elements of the group, with different commutators -/
structure CmS (G Lk : List (List Int)) : Prop where
  ok : ∀ p ∈ Lk, ∃ a b, p = a ++ b ∧ Gen G a ∧ Gen G b
  nd : (idL 7 :: Lk.map cmP).Nodup
theorem CmS.nil (G : List (List Int)) : CmS G [] := ⟨(fun p hp => by cases hp), by simp⟩
theorem CmS.els {G Lk : List (List Int)} (h : CmS G Lk) (hG : Els G) : Els (Lk.map cmP) := fun x hx => by
  obtain ⟨p, hp, rfl⟩ := List.mem_map.1 hx
  obtain ⟨a, b, rfl, ha, hb⟩ := h.ok p hp
  rw [cmP_app (ha.el hG).2]
  exact (ha.el hG).comm (hb.el hG)
theorem CmS.len {G Lk : List (List Int)} (h : CmS G Lk) (hG : Els G) : Lk.length + 1 ≤ 823543 := by
  have h1 := els_len h.nd fun x hx => by
    rcases List.mem_cons.1 hx with e | e
    · rw [e]; exact El.one.e7
    · exact (h.els hG x e).e7
  simpa using h1
theorem CmS.l14 {G Lk : List (List Int)} (h : CmS G Lk) (hG : Els G) : ∀ p ∈ Lk, p.length = 14 := fun p hp => by
  obtain ⟨a, b, rfl, ha, hb⟩ := h.ok p hp
  rw [List.length_append, (ha.el hG).2, (hb.el hG).2]
theorem CmS.add {G Lk : List (List Int)} {a b : List Int} (h : CmS G Lk) (ha : Gen G a) (hb : Gen G b) : CmS G (addP Lk (a ++ b)) := by
  unfold addP
  split
  · exact h
  · rename_i hn
    refine ⟨fun p hp => ?_, ?_⟩
    · rcases List.mem_append.1 hp with e | e
      · exact h.ok p e
      · exact ⟨a, b, List.mem_singleton.1 e, ha, hb⟩
    · rw [List.map_append, ← List.cons_append]
      exact List.nodup_append.2 ⟨h.nd, by simp, fun x hx y hy e => by
        simp only [List.map_cons, List.map_nil, List.mem_singleton] at hy
        rw [e, hy] at hx
        exact hn hx⟩
/-- the pairs, complete -/
structure PairsOf (G Ps : List (List Int)) : Prop where
  cm : CmS G Ps
  all : ∀ a b, Gen G a → Gen G b → Cin Ps (commG a b)
/-- the first elements of the classes: each element is conjugate to one of them -/
theorem reps_all {S : List (List Int)} (hS : Cl S) {a : List Int} (ha : a ∈ S) : ∃ k, k < (clsTo S S.length).length ∧ ∃ y ∈ S, a = conjL (((clsTo S S.length).getD k []).getD 0 []) y := by
  obtain ⟨i, hi, rfl⟩ := List.getElem_of_mem ha
  have h1 := clsTo_got hS S.length (Nat.le_refl _) i hi
  rw [show S.getD i [] = S[i] by simp [hi]] at h1
  obtain ⟨C, hC, hm⟩ := List.mem_flatten.1 h1
  obtain ⟨k, hk, rfl⟩ := List.getElem_of_mem hC
  obtain ⟨e, he, e1⟩ := clsTo_of S.length (Nat.le_refl _) _ hC
  refine ⟨k, hk, ?_⟩
  rw [show (clsTo S S.length).getD k [] = (clsTo S S.length)[k] by simp [hk]]
  have hr : ((clsTo S S.length)[k]).getD 0 [] ∈ (clsTo S S.length)[k] := getD_mem (List.length_pos_of_mem hm)
  rw [e1] at hr hm ⊢
  rw [← cls_of hS he hr] at hm
  obtain ⟨y, hy, ey⟩ := (mem_cls hS (cls_in hr) _).1 hm
  exact ⟨y, hy, ey.symm⟩
theorem reps_in {S : List (List Int)} (hS : Cl S) {k : Nat} (hk : k < (clsTo S S.length).length) : 0 < ((clsTo S S.length).getD k []).length ∧ ((clsTo S S.length).getD k []).getD 0 [] ∈ S ∧ ∀ x ∈ (clsTo S S.length).getD k [], x ∈ S := by
  obtain ⟨e, he, e1⟩ := clsTo_of S.length (Nat.le_refl _) _ (show (clsTo S S.length).getD k [] ∈ clsTo S S.length by rw [List.getD_eq_getElem?_getD, List.getElem?_eq_getElem hk]; exact List.getElem_mem hk)
  rw [e1]
  have h0 := List.length_pos_of_mem (self_cls hS he)
  exact ⟨h0, cls_in (getD_mem h0), fun x hx => cls_in hx⟩
theorem Grp.cl {G L : List (List Int)} (g : Grp G L) : Cl L := ⟨g.els, fun a ha => (g.mem a).2 (Gen.sub g.gels (fun x hx => g.gen x hx) ha)⟩

set_option maxRecDepth 100000 in
set_option maxHeartbeats 8000000 in
theorem commutators_any {B c m : Nat} {n : Int} {vg vl : Value} {G L : List (List Int)} {w : World} (h : Clo B w c m n vg vl G L) (g : Grp G L) :
    Calls Try.prog 69 #[.pointer (some ⟨c, 0, none⟩)] w fun e w' => ∃ v Ps, e = .returned v ∧ Opr w.heap.size w' v Ps ∧ PairsOf G Ps ∧ Below w.heap.size w w' := by
  have HC := Lib.hid h
  have HG := Lib.hid g
  have hl0 : 0 < L.length := List.length_pos_of_mem g.one
  have hll := g.len
  have hgl := g.glen
  have b1 := (Below.refl w.heap.size w).alloc (Nat.le_refl _) (.cells #[.slice none 0 0] 85)
  have b2 := b1.alloc b1.size (.map #[] 0)
  have p1 := Blk.new w 85 #[.slice none 0 0]
  have p2 := p1.alloc (.map #[] 0)
  have m2 := MapS.new (w.alloc (.cells #[.slice none 0 0] 85))
  rw [World.size_alloc] at m2
  have HB2 := Lib.hid b2
  have HP2 := Lib.hid p2
  have HM2 := Lib.hid m2
  clear h g b1 b2 p1 p2 m2
  go_enter Try.func69, Try.ntmps69
  go_wp2_with (first | (refine wpList_make_set rfl rfl ?_))
  refine (neutral_any _).mono ?_
  rintro e w1 ⟨rfl, hb1⟩
  have HM1 := Lib.hid (HM2.out.below hb1)
  have HP1 := Lib.hid (HP2.out.below hb1)
  have HB1 := Lib.hid (HB2.out.trans (hb1.mono HB2.out.size))
  have hz1 : w.heap.size + 2 ≤ w1.heap.size := by have := hb1.size; rw [World.size_alloc, World.size_alloc] at this; omega
  clear hb1 HM2 HP2 HB2
  go_wp2_with (refine wpList_ins_set rfl _ _ _ rfl (w.heap.size + 1) [] rfl HM1.out (by unfold maxLen; decide) (idL 7) rfl rfl El.one.e7 ?_; intro w2 hm2 hg2; have HM2 := Lib.hid hm2; have HP2 := Lib.hid (HM1.out.blk HP1.out hg2); have HB2 := Lib.hid (HB1.out.grown hg2 HB1.out.size (fun r e => by have := Option.some.inj e; omega)); have hz2 : w.heap.size + 2 ≤ w2.heap.size := (Nat.le_trans hz1 hg2.size); clear hm2 hg2)
  obtain ⟨w3, hw3⟩ : ∃ w3, w3 = w2.alloc (.cells #[.map (some (w.heap.size + 1))] 73) := ⟨_, rfl⟩
  have b3 : Below w2.heap.size w2 w3 := by rw [hw3]; exact (Below.refl w2.heap.size w2).alloc (Nat.le_refl _) _
  have c3 : Blk w3 w2.heap.size 73 #[.map (some (w.heap.size + 1))] := by rw [hw3]; exact Blk.new w2 _ _
  rw [← hw3]
  obtain ⟨mc, hmc⟩ : ∃ mc, mc = w2.heap.size := ⟨_, rfl⟩
  have HPS := Lib.hid (show PSt w.heap.size mc w.heap.size (w.heap.size + 1) [] w3 from ⟨by rw [hmc]; exact c3, ⟨_, HP2.out.below b3, Opr.nil _ _⟩, ⟨_, HM2.out.below b3, rfl, fun x => by simp⟩, by omega, Nat.le_refl _, by omega⟩)
  have HB3 := Lib.hid (HB2.out.trans (b3.mono HB2.out.size))
  rw [← hmc]
  clear b3 c3 hw3 hmc HM2 HP2 HB2 HM1 HP1 HB1 hz1 hz2
  refine (classes_any (HC.out.below HB3.out) HG.out).mono ?_
  rintro e w4 ⟨cv, S, rfl, hsp, hsa, hcr, hb4⟩
  have hS : Cl S := (Cl.congr (fun x => hsp.mem_iff) HG.out.cl)
  have HS := Lib.hid hS
  have HSP := Lib.hid hsp
  have hcp : 0 < (clsTo S S.length).length := clsTo_pos S _ (by rw [hsp.length_eq]; exact hl0)
  obtain ⟨Cs, hCs⟩ : ∃ Cs, Cs = clsTo S S.length := ⟨_, rfl⟩
  have HCs := Lib.hid hCs
  rw [← hCs] at hcr hcp
  have hcl : Cs.length ≤ 823543 := by rw [hCs]; have h1 := clsTo_len S S.length; have h2 := hsp.length_eq; omega
  obtain ⟨xs, x1, x2, x3⟩ := hcr
  obtain ⟨N, hN⟩ : ∃ N, N = Cs.length := ⟨_, rfl⟩
  have HN := Lib.hid hN
  rw [← hN] at hcl x1 x3 hcp
  rw [x1] at x2
  have HX3 := Lib.hid x3
  have HP4 := Lib.hid (HPS.out.below hb4)
  have HB4 := Lib.hid (HB3.out.trans (hb4.mono HB3.out.size))
  obtain ⟨gk, ck, hcv⟩ : ∃ gk ck, cv = .slice (some ⟨gk, 0, none⟩) N ck := by
    rcases x2.2 with ⟨_, h0⟩ | ⟨gk, ck, _, e, _⟩
    · omega
    · exact ⟨gk, ck, e⟩
  subst hcv
  have HX2 := Lib.hid x2
  have HXl := Lib.hid x1
  -- the representatives
  have HRep := Lib.hid (show ∀ k, k < N → 0 < (Cs.getD k []).length ∧ (Cs.getD k []).getD 0 [] ∈ S ∧ ∀ x ∈ Cs.getD k [], x ∈ S from fun k hk => by
    have := reps_in hS (k := k) (by rw [← hCs, ← hN]; exact hk)
    rwa [← hCs] at this)
  have HInS := Lib.hid (show ∀ x, x ∈ S → El x ∧ Gen G x from fun x hx => ⟨hS.1 x hx, HG.out.gen x (hsp.mem_iff.1 hx)⟩)
  have HLn : ∀ Lk, CmS G Lk → Lk.length + 1 ≤ 823543 := fun Lk hk => hk.len HG.out.gels
  have HLen := Lib.hid HLn
  have HVl := Lib.hid (show ∃ ga ca, vl = .slice (some ⟨ga, 0, none⟩) L.length ca from HC.out.rl.form hl0)
  have HVg := Lib.hid (show ∃ ga ca, vg = .slice ga G.length ca from HC.out.rg.slice)
  have K4 := Lib.hid (KeepP.refl w4)
  clear hS hsp hsa hCs hb4 HPS HB3 hN x1 x2 x3 HLn
  obtain ⟨gl, cl, rfl⟩ := HVl.out
  obtain ⟨ag, cg, rfl⟩ := HVg.out
  obtain ⟨pc, hpc⟩ : ∃ pc, pc = w.heap.size := ⟨_, rfl⟩
  obtain ⟨m', hm'⟩ : ∃ m', m' = w.heap.size + 1 := ⟨_, rfl⟩
  have HP4 := Lib.hid (show PSt w.heap.size mc pc m' [] w4 by rw [hpc, hm']; exact HP4.out)
  rw [← hm', ← hpc]
  clear hpc hm'
  go_wp2_with fail
  go_loopw [21] (fun iv wr => ∃ (k : Nat) (Lk : List (List Int)), iv = .int .i64 k ∧ k ≤ N ∧ Hid (PSt w.heap.size mc pc m' Lk wr) ∧ Hid (CmS G Lk) ∧ Hid (∀ i, i < k → ∀ b ∈ L, Cin Lk (commG ((Cs.getD i []).getD 0 []) b)) ∧ Hid (KeepP w4 wr) ∧ Hid (Below w.heap.size w wr)) (fun iv _ => N - (intOf iv).toNat)
  case atStart => exact ⟨0, [], rfl, Nat.zero_le _, HP4, Lib.hid (CmS.nil G), Lib.hid (fun i hi => by omega), K4, HB4⟩
  case round =>
    clear HP4 K4 HB4
    obtain ⟨k, Lk, rfl, hk, HP, HM, HR, HK, HB⟩ := hrel
    obtain ⟨wo, rfl⟩ : ∃ wo, wo = wr := ⟨wr, rfl⟩
    by_cases hkn : k < N
    · obtain ⟨r0, r1, r2⟩ := HRep.out k hkn
      have hy := HX3.out k hkn
      have hcell := row_cell1 (show wo.ownsRow _ _ 1 (.slice (some ⟨gk, 0, none⟩) N ck) xs.length xs by rw [HXl.out]; exact HK.out.row HX2.out (by decide) (by decide)) (i := k) (by rw [HXl.out]; exact hkn)
      obtain ⟨y, hy0⟩ : ∃ y, y = xs.getD k undef := ⟨_, rfl⟩
      rw [← hy0] at hy hcell
      obtain ⟨D, hD⟩ : ∃ D, D = Cs.getD k [] := ⟨_, rfl⟩
      rw [← hD] at hy r0 r1 r2
      obtain ⟨gy, cy, rfl⟩ := hy.form r0
      obtain ⟨dn, hdn⟩ : ∃ dn, dn = D.length := ⟨_, rfl⟩
      rw [← hdn] at hy hcell r0
      have HY := Lib.hid hy
      have HD := Lib.hid hD
      have HDn := Lib.hid hdn
      obtain ⟨r, hr⟩ : ∃ r, r = D.getD 0 [] := ⟨_, rfl⟩
      have HRr := Lib.hid hr
      rw [← hr] at r1
      have HRS := Lib.hid (HInS.out r r1)
      have HD7 := Lib.hid (show ∀ x ∈ D, x.length = 7 from fun x hx => (HInS.out x (r2 x hx)).1.2)
      have hc2 := (HC.out.cells.below HB.out).cell 2
      have hr00 := r0
      clear hy hy0 hD hdn hr r1 r2
      go_wp2_with fail
      have HJ0 := Lib.hid (show ∀ t, t < 0 → Cin Lk (commG r (L.getD t [])) from fun t ht => by omega)
      clear hc2 hcell
      go_loopw [30] (fun jv wr => ∃ (j : Nat) (Lk : List (List Int)), jv = .int .i64 j ∧ j ≤ L.length ∧ Hid (PSt w.heap.size mc pc m' Lk wr) ∧ Hid (CmS G Lk) ∧ Hid (∀ i, i < k → ∀ b ∈ L, Cin Lk (commG ((Cs.getD i []).getD 0 []) b)) ∧ Hid (∀ t, t < j → Cin Lk (commG r (L.getD t []))) ∧ Hid (KeepP w4 wr) ∧ Hid (Below w.heap.size w wr)) (fun jv _ => L.length - (intOf jv).toNat)
      case atStart => exact ⟨0, Lk, rfl, Nat.zero_le _, HP, HM, HR, HJ0, HK, HB⟩
      case round =>
        clear HP HM HR HJ0 HK HB
        obtain ⟨j, Lk, rfl, hj, HP, HM, HR, HJ, HK, HB⟩ := hrel
        by_cases hjl : j < L.length
        · have hrg := (HC.out.below HB.out).rl.range (fun x hx => (HG.out.els x hx).2) j hjl
          obtain ⟨b, hb⟩ : ∃ b, b = L.getD j [] := ⟨_, rfl⟩
          have hEb : El b := by rw [hb]; exact HG.out.els _ (getD_mem hjl)
          have hGb : Gen G b := by rw [hb]; exact HG.out.gen _ (getD_mem hjl)
          rw [← hb] at hrg
          have HRg := Lib.hid hrg
          have HBe := Lib.hid hb
          have HEb := Lib.hid hEb
          have HGb := Lib.hid hGb
          have HQ0 := Lib.hid (Blk.new wr 78 #[.int .u8 0, .int .u8 0, .int .u8 0, .int .u8 0, .int .u8 0, .int .u8 0, .int .u8 0])
          have HQ := Lib.hid (new_blk wr 78 #[.int .u8 0, .int .u8 0, .int .u8 0, .int .u8 0, .int .u8 0, .int .u8 0, .int .u8 0] b)
          have HBQ := Lib.hid (new_below wr 78 #[.int .u8 0, .int .u8 0, .int .u8 0, .int .u8 0, .int .u8 0, .int .u8 0, .int .u8 0] b)
          clear hrg hb hEb hGb
          go_wp2_with (first | (refine wpList_load_mid rfl 78 _ rfl gl (j * 7) rfl (b.map (Value.int .u8)) _ HRg.out Try.underlying78 rfl (info7 HEb.out) ?_) | (refine wpList_store_row rfl 78 _ _ rfl wr.heap.size (u8s b) rfl rfl 78 #[.int .u8 0, .int .u8 0, .int .u8 0, .int .u8 0, .int .u8 0, .int .u8 0, .int .u8 0] HQ0.out (infoElem' HEb.out.2) (by rw [size_u8s, HEb.out.2]; rfl) (u8s_one b) ?_))
          obtain ⟨wx, hwx⟩ : ∃ wx, wx = (wr.alloc (.cells #[.int .u8 0, .int .u8 0, .int .u8 0, .int .u8 0, .int .u8 0, .int .u8 0, .int .u8 0] 78)).setRow wr.heap.size (u8s b) := ⟨_, rfl⟩
          have HQ := Lib.hid (show Blk wx wr.heap.size 78 (u8s b) by rw [hwx]; exact HQ.out)
          have hbq : Below wr.heap.size wr wx := by rw [hwx]; exact HBQ.out
          rw [← hwx]
          have HPx := Lib.hid (HP.out.below hbq)
          have HKx := Lib.hid (HK.out.trans (KeepP.of_below hbq))
          have HBx := Lib.hid (HB.out.trans (hbq.mono HB.out.size))
          have HYx := Lib.hid (show Oel w3.heap.size wx (.slice (some ⟨gy, 0, none⟩) dn cy) D from HKx.out.row HY.out (by decide) (by decide))
          obtain ⟨eb, heb⟩ : ∃ eb, eb = wr.heap.size := ⟨_, rfl⟩
          rw [← heb] at HQ ⊢
          clear hwx hbq HQ0 HBQ HRg HP HK HB heb
          have hS : Below wx.heap.size wx wx.drew := below_drewN' (Below.refl _ _) 1
          refine wp_region_held_all (S := fun w' => KeepP wx w') (by kernel_rfl) ?_
          have hK0 : KeepP wx wx.drew := KeepP.of_below hS
          refine held_take (i := 0) (v := .func (.func 91) #[] #[.pointer (some ⟨mc, 0, none⟩), .pointer (some ⟨pc, 0, none⟩)]) rfl rfl (by kernel_rfl) (by kernel_rfl) (by kernel_rfl) (fun w' h => by go_simp) hK0 ?_
          refine held_take (i := 1) (v := .slice (some ⟨gy, 0, none⟩) dn cy) rfl rfl (by kernel_rfl) (by kernel_rfl) (by kernel_rfl) (fun w' h => by go_simp) hK0 ?_
          refine held_take (i := 2) (v := .pointer (some ⟨gy, 0, none⟩)) rfl rfl (by kernel_rfl) (by kernel_rfl) (by kernel_rfl) (fun w' h => by go_simp) hK0 ?_
          simp [Act.put]
          refine held_take (i := 3) (v := .agg (u8s r)) rfl rfl (by kernel_rfl) (by kernel_rfl) (by kernel_rfl) (fun w' h => run_mid_op 78 _ rfl gy 0 rfl (r.map (Value.int .u8)) _ (by
            have h1 := Oel.range (show Oel w3.heap.size w' (.slice (some ⟨gy, 0, none⟩) dn cy) D from h.row HYx.out (by decide) (by decide)) HD7.out 0 (by rw [← HDn.out]; exact hr00)
            rw [← HRr.out, Nat.zero_mul] at h1
            exact h1) Try.underlying78 rfl (info7 HRS.out.1)) hK0 ?_
          refine held_take (i := 4) (v := .agg (u8s b)) rfl rfl (by kernel_rfl) (by kernel_rfl) (by kernel_rfl) (fun w' h => run_row_op 78 _ rfl eb rfl 78 (u8s b) (0, 0) _ (h _ _ _ HQ.out (by decide) (by decide)) Try.underlying78 rfl (infoElem' HEb.out.2)) hK0 ?_
          simp [Act.put]
          refine held_take (i := 5) (v := .agg (u8s (r ++ b))) rfl rfl (by kernel_rfl) (by kernel_rfl) (by kernel_rfl) (fun w' h => run_mk_op 89 _ _ rfl r b _ rfl rfl (run_mk_pr HRS.out.1.2 HEb.out.2 w')) hK0 ?_
          simp [Act.put]
          refine held_only (i := 6) rfl rfl (by kernel_rfl) (wp_call_fn 91 Try.func91 (by kernel_rfl) rfl _ #[.pointer (some ⟨mc, 0, none⟩), .pointer (some ⟨pc, 0, none⟩)] rfl _ _ rfl #[.agg (u8s (r ++ b)), .pointer (some ⟨mc, 0, none⟩), .pointer (some ⟨pc, 0, none⟩)] rfl ((addp_any HRS.out.1 HEb.out (HPx.out.below hS) (by have := HLen.out _ HM.out; omega) (by have := HBx.out.size; have := hS.size; omega)).mono ?_))
          rintro e w5 ⟨rfl, hp5, hb5, hk5, _⟩
          have HP5 := Lib.hid hp5
          have HK5 := Lib.hid (HKx.out.trans (hK0.trans hk5))
          have HB5 := Lib.hid (show Below w.heap.size w w5 from (HBx.out.trans (hS.mono HBx.out.size)).trans hb5)
          refine ⟨_, rfl, hK0.trans hk5, held_done (by kernel_rfl) ?_⟩
          have HM5 := Lib.hid (HM.out.add HRS.out.2 HGb.out)
          have HR5 := Lib.hid (show ∀ i, i < k → ∀ b2 ∈ L, Cin (addP Lk (r ++ b)) (commG ((Cs.getD i []).getD 0 []) b2) from fun i hi b' hb' => (HR.out i hi b' hb').more _)
          clear hp5 hb5 hk5 hS hK0
          have HJ5 := Lib.hid (show ∀ t, t < j + 1 → Cin (addP Lk (r ++ b)) (commG r (L.getD t [])) from fun t ht => by
            by_cases e : t = j
            · rw [e, ← HBe.out, ← cmP_app HRS.out.1.2]
              exact Cin.self _ _
            · exact (HJ.out t (by omega)).more _)
          clear HM HR HJ HPx HKx HBx HYx HQ
          go_wp2_with fail
          go_roundw
          case rel => exact ⟨j + 1, _, by go_num, by omega, HP5, HM5, HR5, HJ5, HK5, HB5⟩
          case measure => simp [intOf]; omega
        · have hje : j = L.length := by omega
          have HR5 := Lib.hid (show ∀ i, i < k + 1 → ∀ b ∈ L, Cin Lk (commG ((Cs.getD i []).getD 0 []) b) from fun i hi b hb => by
            by_cases e : i = k
            · obtain ⟨t, ht, rfl⟩ := List.getElem_of_mem hb
              have h1 := HJ.out t (by omega)
              rw [show L.getD t [] = L[t] by simp [ht]] at h1
              rw [e, ← HD.out, ← HRr.out]
              exact h1
            · exact HR.out i (by omega) b hb)
          clear hje HR HJ
          go_wp2_with fail
          go_roundw
          case rel => exact ⟨k + 1, Lk, by go_num, by omega, HP, HM, HR5, HK, HB⟩
          case measure => simp [intOf]; omega
    · have hke : k = N := by omega
      have HRf := Lib.hid (show ∀ i, i < N → ∀ b ∈ L, Cin Lk (commG ((Cs.getD i []).getD 0 []) b) from by rw [← hke]; exact HR.out)
      have hl1 : Lk.length ≤ 823543 := by have := HLen.out _ HM.out; omega
      clear hke HR HK
      go_wp2_with fail
      go_loopw [10] (fun iv wr => ∃ (k : Nat) (Lk : List (List Int)), iv = .int .i64 k ∧ k ≤ Lk.length ∧ Lk.length ≤ 823543 ∧ Hid (PSt w.heap.size mc pc m' Lk wr) ∧ Hid (CmS G Lk) ∧ Hid (∀ i, i < N → ∀ b ∈ L, Cin Lk (commG ((Cs.getD i []).getD 0 []) b)) ∧ Hid (∀ i, i < k → ∀ x ∈ G, Cin Lk (conjL (cmP (Lk.getD i [])) x)) ∧ Hid (Below w.heap.size w wr)) (fun iv _ => 823543 - (intOf iv).toNat)
      case atStart => exact ⟨0, Lk, rfl, Nat.zero_le _, hl1, HP, HM, HRf, Lib.hid (fun i hi => by omega), HB⟩
      case round =>
        clear HP HM HRf HB hl1
        obtain ⟨k, Lk, rfl, hk, hl1, HP, HM, HR, HI, HB⟩ := hrel
        obtain ⟨wo, rfl⟩ : ∃ wo, wo = wr := ⟨wr, rfl⟩
        obtain ⟨vp, q1, q2⟩ := HP.out.c2
        obtain ⟨pa, pcap, hvp⟩ := q2.slice
        by_cases hkl : k < Lk.length
        · obtain ⟨gp, cpp, hvq⟩ := q2.form (by omega)
          rw [hvq] at q2 q1
          have hcp0 := q1.cell 0
          clear hvp hvq
          have hrg := q2.range (HM.out.l14 HG.out.gels) k hkl
          obtain ⟨p, hp⟩ : ∃ p, p = Lk.getD k [] := ⟨_, rfl⟩
          obtain ⟨a, b, hab, hGa, hGb⟩ := HM.out.ok p (by rw [hp]; exact getD_mem hkl)
          have hEa := hGa.el HG.out.gels
          have hEb := hGb.el HG.out.gels
          have hp14 : p.length = 14 := by rw [hab, List.length_append, hEa.2, hEb.2]
          rw [← hp] at hrg
          have HRg := Lib.hid hrg
          have Hp := Lib.hid hp
          have HAb := Lib.hid hab
          have HGa := Lib.hid hGa
          have HGb := Lib.hid hGb
          have HEa := Lib.hid hEa
          have HEb := Lib.hid hEb
          have HP14 := Lib.hid hp14
          have Q1 := Lib.hid q1
          have Q2 := Lib.hid q2
          have HQ0 := Lib.hid (Blk.new wo 89 z14)
          have HQ := Lib.hid (new_blk wo 89 z14 p)
          have hbq := new_below wo 89 z14 p
          have HBQ := Lib.hid hbq
          have HPX := Lib.hid (HP.out.below hbq)
          have HBX := Lib.hid (HB.out.trans (hbq.mono HB.out.size))
          have hc1 := (HC.out.cells.below HBX.out).cell 1
          have hqlt := (Q2.out.lt gp rfl).2
          have HAs := Lib.hid (show Aside pc _ wo.heap.size (u8s p) from ⟨HQ.out, fun u hu => by
            have h1 := Q1.out.below hbq
            unfold Blk at hu h1
            rw [h1] at hu
            cases hu
            intro h
            have h2 : gp = wo.heap.size := Option.some.inj h
            omega⟩)
          have HKp := Lib.hid (show k < Lk.length ∧ Lk.getD k [] = p from ⟨hkl, hp.symm⟩)
          clear hrg hp hab hGa hGb hEa hEb hp14 q1 q2 hbq
          unfold z14 at HQ0 HQ HPX HBX HAs hc1 HBQ
          go_wp2_with (first | (refine wpList_load_mid rfl 89 _ rfl gp (k * 14) rfl (p.map (Value.int .u8)) _ HRg.out Try.underlying89 rfl (infoPr14 HP14.out) ?_) | (refine wpList_store_row rfl 89 _ _ rfl wo.heap.size (u8s p) rfl rfl 89 _ HQ0.out (infoPr' HP14.out) (by rw [size_u8s, HP14.out]; rfl) (u8s_one p) ?_))
          have HJ0 := Lib.hid (show ∀ t, t < 0 → Cin Lk (conjL (cmP p) (G.getD t [])) from fun t ht => by omega)
          have HcmP := Lib.hid (show cmP p = commG a b by rw [HAb.out]; exact cmP_app HEa.out.2)
          obtain ⟨pb, hpb⟩ : ∃ pb, pb = wo.heap.size := ⟨_, rfl⟩
          rw [← hpb] at HPX HAs HBX ⊢
          clear hpb HP HB HRg Hp HQ0 HQ HBQ Q1 Q2 hc1 hcp0 hqlt hkl hk
          generalize ((wo.alloc (.cells #[.int .u8 0, .int .u8 0, .int .u8 0, .int .u8 0, .int .u8 0, .int .u8 0, .int .u8 0, .int .u8 0, .int .u8 0, .int .u8 0, .int .u8 0, .int .u8 0, .int .u8 0, .int .u8 0] 89)).setRow pb (u8s p)) = wy at *
          go_loopw [58] (fun jv wr => ∃ (j : Nat) (Lk : List (List Int)), jv = .int .i64 j ∧ j ≤ G.length ∧ Hid (PSt w.heap.size mc pc m' Lk wr) ∧ Hid (CmS G Lk) ∧ Hid (∀ i, i < N → ∀ b ∈ L, Cin Lk (commG ((Cs.getD i []).getD 0 []) b)) ∧ Hid (∀ i, i < k → ∀ x ∈ G, Cin Lk (conjL (cmP (Lk.getD i [])) x)) ∧ Hid (k < Lk.length ∧ Lk.getD k [] = p) ∧ Hid (∀ t, t < j → Cin Lk (conjL (cmP p) (G.getD t []))) ∧ Hid (Aside pc wr pb (u8s p)) ∧ Hid (Below w.heap.size w wr)) (fun jv _ => G.length - (intOf jv).toNat)
          case atStart => exact ⟨0, Lk, rfl, Nat.zero_le _, HPX, HM, HR, HI, HKp, HJ0, HAs, HBX⟩
          case round =>
            clear HPX HM HR HI HKp HJ0 HAs HBX
            obtain ⟨j, Lk, rfl, hj, HP, HM, HR, HI, HKp, HJ, HAs, HB⟩ := hrel
            by_cases hjl : j < G.length
            · obtain ⟨gh, ch, hag⟩ := HC.out.rg.form (by omega)
              cases hag
              have hrg := (HC.out.below HB.out).rg.range (fun x hx => (HG.out.gels x hx).2) j hjl
              obtain ⟨x, hx⟩ : ∃ x, x = G.getD j [] := ⟨_, rfl⟩
              have hxm : x ∈ G := by rw [hx]; exact getD_mem hjl
              have hEx := HG.out.gels x hxm
              rw [← hx] at hrg
              have HRg := Lib.hid hrg
              have HXe := Lib.hid hx
              have HXm := Lib.hid hxm
              have HEx := Lib.hid hEx
              have HQ0 := Lib.hid (Blk.new wr 78 #[.int .u8 0, .int .u8 0, .int .u8 0, .int .u8 0, .int .u8 0, .int .u8 0, .int .u8 0])
              have HQ := Lib.hid (new_blk wr 78 #[.int .u8 0, .int .u8 0, .int .u8 0, .int .u8 0, .int .u8 0, .int .u8 0, .int .u8 0] x)
              have HBQ := Lib.hid (new_below wr 78 #[.int .u8 0, .int .u8 0, .int .u8 0, .int .u8 0, .int .u8 0, .int .u8 0, .int .u8 0] x)
              clear hrg hx hxm hEx
              go_wp2_with (first | (refine wpList_load_mid rfl 78 _ rfl gh (j * 7) rfl (x.map (Value.int .u8)) _ HRg.out Try.underlying78 rfl (info7 HEx.out) ?_) | (refine wpList_store_row rfl 78 _ _ rfl wr.heap.size (u8s x) rfl rfl 78 #[.int .u8 0, .int .u8 0, .int .u8 0, .int .u8 0, .int .u8 0, .int .u8 0, .int .u8 0] HQ0.out (infoElem' HEx.out.2) (by rw [size_u8s, HEx.out.2]; rfl) (u8s_one x) ?_))
              obtain ⟨wx, hwx⟩ : ∃ wx, wx = (wr.alloc (.cells #[.int .u8 0, .int .u8 0, .int .u8 0, .int .u8 0, .int .u8 0, .int .u8 0, .int .u8 0] 78)).setRow wr.heap.size (u8s x) := ⟨_, rfl⟩
              have HQ := Lib.hid (show Blk wx wr.heap.size 78 (u8s x) by rw [hwx]; exact HQ.out)
              have hbq : Below wr.heap.size wr wx := by rw [hwx]; exact HBQ.out
              rw [← hwx]
              have hplt : pc < wr.heap.size := by obtain ⟨_, q1, _⟩ := HP.out.c2; exact q1.lt
              have HPx := Lib.hid (HP.out.below hbq)
              have HAx := Lib.hid (HAs.out.below hbq hplt)
              have HBx := Lib.hid (HB.out.trans (hbq.mono HB.out.size))
              have hplx : pc < wx.heap.size := Nat.lt_of_lt_of_le hplt hbq.size
              obtain ⟨eb, heb⟩ : ∃ eb, eb = wr.heap.size := ⟨_, rfl⟩
              rw [← heb] at HQ ⊢
              clear hwx hbq HQ0 HBQ HRg HP HAs HB heb hplt
              have hS : Below wx.heap.size wx wx.drew := below_drewN' (Below.refl _ _) 1
              have hT : Blk wx.drew pb 89 (u8s p) ∧ Blk wx.drew eb 78 (u8s x) := ⟨HAx.out.1, HQ.out⟩
              refine wp_region_held_all (S := fun w' => Blk w' pb 89 (u8s p) ∧ Blk w' eb 78 (u8s x)) (by kernel_rfl) ?_
              refine held_take (i := 0) (v := .func (.func 91) #[] #[.pointer (some ⟨mc, 0, none⟩), .pointer (some ⟨pc, 0, none⟩)]) rfl rfl (by kernel_rfl) (by kernel_rfl) (by kernel_rfl) (fun w' h => by go_simp) hT ?_
              refine held_take (i := 1) (v := .pointer (some ⟨pb, 0, none⟩)) rfl rfl (by kernel_rfl) (by kernel_rfl) (by kernel_rfl) (fun w' h => by go_simp) hT ?_
              simp [Act.put]
              refine held_take (i := 2) (v := .agg (u8s a)) rfl rfl (by kernel_rfl) (by kernel_rfl) (by kernel_rfl) (fun w' h => run_mid_op 78 _ rfl pb 0 rfl (a.map (Value.int .u8)) _ (by
                have h1 := blk_range h.1 0 7
                rw [HAb.out, List.drop_zero, List.take_left' HEa.out.2] at h1
                exact h1) Try.underlying78 rfl (info7 HEa.out)) hT ?_
              refine held_take (i := 3) (v := .agg (u8s x)) rfl rfl (by kernel_rfl) (by kernel_rfl) (by kernel_rfl) (fun w' h => run_row_op 78 _ rfl eb rfl 78 (u8s x) (0, 0) _ h.2 Try.underlying78 rfl (infoElem' HEx.out.2)) hT ?_
              refine held_take (i := 5) (v := .pointer (some ⟨pb, 7, none⟩)) rfl rfl (by kernel_rfl) (by kernel_rfl) (by kernel_rfl) (fun w' h => by go_simp) hT ?_
              simp [Act.put]
              refine held_take (i := 6) (v := .agg (u8s b)) rfl rfl (by kernel_rfl) (by kernel_rfl) (by kernel_rfl) (fun w' h => run_mid_op 78 _ rfl pb 7 rfl (b.map (Value.int .u8)) _ (by
                have h1 := blk_range h.1 7 7
                rw [HAb.out, List.drop_left' HEa.out.2, List.take_of_length_le (by rw [HEb.out.2]; exact Nat.le_refl _)] at h1
                exact h1) Try.underlying78 rfl (info7 HEb.out)) hT ?_
              refine held_take (i := 7) (v := .agg (u8s x)) rfl rfl (by kernel_rfl) (by kernel_rfl) (by kernel_rfl) (fun w' h => run_row_op 78 _ rfl eb rfl 78 (u8s x) (0, 0) _ h.2 Try.underlying78 rfl (infoElem' HEx.out.2)) hT ?_
              simp [Act.put]
              refine held_only (i := 4) rfl rfl (by kernel_rfl) (wp_call_any 82 Try.func82 (by kernel_rfl) rfl _ _ rfl #[.agg (u8s a), .agg (u8s x)] rfl ((conj_el a x _ HEa.out.e7 HEx.out.e7).mono ?_))
              rintro e w5 ⟨rfl, hb5⟩
              rw [cjTo_eq HEa.out HEx.out]
              have hS5 := hS.trans (hb5.mono hS.size)
              have hT5 : Blk w5 pb 89 (u8s p) ∧ Blk w5 eb 78 (u8s x) := ⟨hT.1.below hb5, hT.2.below hb5⟩
              refine ⟨_, rfl, hT5, ?_⟩
              simp [Act.put]
              refine held_only (i := 8) rfl rfl (by kernel_rfl) (wp_call_any 82 Try.func82 (by kernel_rfl) rfl _ _ rfl #[.agg (u8s b), .agg (u8s x)] rfl ((conj_el b x _ HEb.out.e7 HEx.out.e7).mono ?_))
              rintro e w6 ⟨rfl, hb6⟩
              rw [cjTo_eq HEb.out HEx.out]
              have hS6 := hS5.trans (hb6.mono hS5.size)
              have hT6 : Blk w6 pb 89 (u8s p) ∧ Blk w6 eb 78 (u8s x) := ⟨hT5.1.below hb6, hT5.2.below hb6⟩
              refine ⟨_, rfl, hT6, ?_⟩
              simp [Act.put]
              have hac := HEa.out.conj HEx.out
              have hbc := HEb.out.conj HEx.out
              refine held_take (i := 9) (v := .agg (u8s (conjL a x ++ conjL b x))) rfl rfl (by kernel_rfl) (by kernel_rfl) (by kernel_rfl) (fun w' h => run_mk_op 89 _ _ rfl (conjL a x) (conjL b x) _ rfl rfl (run_mk_pr hac.2 hbc.2 w')) hT6 ?_
              simp [Act.put]
              have HP6 := Lib.hid (HPx.out.below hS6)
              have HA6 := Lib.hid (HAx.out.below hS6 hplx)
              have HB6 := Lib.hid (HBx.out.trans (hS6.mono HBx.out.size))
              refine held_only (i := 10) rfl rfl (by kernel_rfl) (wp_call_fn 91 Try.func91 (by kernel_rfl) rfl _ #[.pointer (some ⟨mc, 0, none⟩), .pointer (some ⟨pc, 0, none⟩)] rfl _ _ rfl #[.agg (u8s (conjL a x ++ conjL b x)), .pointer (some ⟨mc, 0, none⟩), .pointer (some ⟨pc, 0, none⟩)] rfl ((addp_any hac hbc HP6.out (by have := HLen.out _ HM.out; omega) HB6.out.size).mono ?_))
              rintro e w7 ⟨rfl, hp7, hb7, hk7, ha7⟩
              have HP7 := Lib.hid hp7
              have HA7 := Lib.hid (ha7 _ _ HA6.out)
              have HB7 := Lib.hid (HB6.out.trans hb7)
              refine ⟨_, rfl, ⟨HA7.out.1, hk7 _ _ _ hT6.2 (by decide) (by decide)⟩, held_done (by kernel_rfl) ?_⟩
              have hGx := Gen.of_mem HG.out.gels HXm.out
              have HM7 := Lib.hid (HM.out.add (HGa.out.conj HG.out.gels hGx) (HGb.out.conj HG.out.gels hGx))
              obtain ⟨q, hq⟩ : ∃ q, q = conjL a x ++ conjL b x := ⟨_, rfl⟩
              have hcq : cmP q = conjL (cmP p) x := by rw [hq, cmP_app hac.2, HcmP.out, conj_comm HEa.out HEb.out HEx.out]
              rw [← hq] at HM7 HP7
              have HR7 := Lib.hid (show ∀ i, i < N → ∀ b2 ∈ L, Cin (addP Lk q) (commG ((Cs.getD i []).getD 0 []) b2) from fun i hi b' hb' => (HR.out i hi b' hb').more _)
              have HI7 := Lib.hid (show ∀ i, i < k → ∀ y ∈ G, Cin (addP Lk q) (conjL (cmP ((addP Lk q).getD i [])) y) from fun i hi y hy => by
                rw [addP_getD q (by have := HKp.out.1; omega)]
                exact (HI.out i hi y hy).more _)
              have HKp7 := Lib.hid (show k < (addP Lk q).length ∧ (addP Lk q).getD k [] = p from ⟨Nat.lt_of_lt_of_le HKp.out.1 (addP_len _ _), by rw [addP_getD q HKp.out.1]; exact HKp.out.2⟩)
              have HJ7 := Lib.hid (show ∀ t, t < j + 1 → Cin (addP Lk q) (conjL (cmP p) (G.getD t [])) from fun t ht => by
                by_cases e : t = j
                · rw [e, ← HXe.out, ← hcq]
                  exact Cin.self _ _
                · exact (HJ.out t (by omega)).more _)
              clear hp7 hb7 hk7 ha7 hS hS5 hS6 hT hT5 hT6 hb5 hb6 hac hbc hGx hq hcq hplx HM HR HI HKp HJ HPx HAx HBx HQ HP6 HA6 HB6 HXe HXm HEx
              go_wp2_with fail
              go_roundw
              case rel => exact ⟨j + 1, _, by go_num, by omega, HP7, HM7, HR7, HI7, HKp7, HJ7, HA7, HB7⟩
              case measure => simp [intOf]; omega
            · have hje : j = G.length := by omega
              have HI7 := Lib.hid (show ∀ i, i < k + 1 → ∀ y ∈ G, Cin Lk (conjL (cmP (Lk.getD i [])) y) from fun i hi y hy => by
                by_cases e : i = k
                · obtain ⟨t, ht, rfl⟩ := List.getElem_of_mem hy
                  have h1 := HJ.out t (by omega)
                  rw [show G.getD t [] = G[t] by simp [ht]] at h1
                  rw [e, HKp.out.2]
                  exact h1
                · exact HI.out i (by omega) y hy)
              have hk1 : k + 1 ≤ Lk.length := HKp.out.1
              have hl2 : Lk.length ≤ 823543 := by have := HLen.out _ HM.out; omega
              clear hje HI HJ HKp HAs
              go_wp2_with fail
              go_roundw
              case rel => exact ⟨k + 1, Lk, by go_num, hk1, hl2, HP, HM, HR, HI7, HB⟩
              case measure => simp [intOf]; omega
        · have hke : k = Lk.length := by omega
          have hcp0 := q1.cell 0
          rw [hvp] at hcp0 q2
          have HO := Lib.hid q2
          have HPs := Lib.hid (show PairsOf G Lk from ⟨HM.out, fun a b ha hb => by
            refine comm_cover HS.out HG.out.gels (fun x => ⟨fun hx => HSP.out.mem_iff.2 ((HG.out.mem x).2 hx), fun hx => (HInS.out x hx).2⟩) (M := Cin Lk) (rs := (List.range N).map fun i => (Cs.getD i []).getD 0 []) (fun a ha => ?_) (fun r hr => ?_) (fun r hr b hb => ?_) (fun x hx => ?_) (HSP.out.mem_iff.2 ((HG.out.mem a).2 ha)) (HSP.out.mem_iff.2 ((HG.out.mem b).2 hb))
            · obtain ⟨i, hi, y, hy, e⟩ := reps_all HS.out ha
              rw [← HCs.out] at hi e
              exact ⟨_, List.mem_map.2 ⟨i, List.mem_range.2 (by rw [HN.out]; exact hi), rfl⟩, y, hy, e⟩
            · obtain ⟨i, hi, rfl⟩ := List.mem_map.1 hr
              exact (HRep.out i (List.mem_range.1 hi)).2.1
            · obtain ⟨i, hi, rfl⟩ := List.mem_map.1 hr
              exact HR.out i (List.mem_range.1 hi) b (HSP.out.mem_iff.1 hb)
            · rcases List.mem_cons.1 hx with e | e
              · rw [e]
                exact ⟨El.one, fun y hy => by rw [conj_one (HG.out.gels y hy)]; exact List.mem_cons_self⟩
              · refine ⟨HM.out.els HG.out.gels x e, fun y hy => ?_⟩
                obtain ⟨q, hq, rfl⟩ := List.mem_map.1 e
                obtain ⟨i, hi, rfl⟩ := List.getElem_of_mem hq
                have := HI.out i (by omega) y hy
                rwa [show Lk.getD i [] = Lk[i] by simp [hi]] at this⟩)
          clear hke q1 q2 hvp HP HM HR HI
          go_wp2_with fail
          go_ret
          exact ⟨_, Lk, rfl, HO.out, HPs.out, HB.out⟩
end Go.Proofs.Ytjnjhfificpbbaa
