/- group.Pairs. -/
import Derived.Test.YtjnjhfificpbbaaShr
import Derived.Test.YtjnjhfificpbbaaGlaw6
namespace Go.Proofs.Ytjnjhfificpbbaa
open Go Go.RowKit

theorem infoP2 : (Try.prog.info? 50).map (fun i => (i.zero, i.size, i.bytes)) = some (some (.agg #[.slice none 0 0, .slice none 0 0]), 2, 48) := by kernel_rfl
/-- a row of the call's own of pairs of permutations of n points -/
def Prow (B : Nat) (w : World) (v : Value) (n : Nat) (Qs : List (List Int)) : Prop := ∃ vs : List Value, vs.length = Qs.length * 2 ∧ w.ownsRow B 50 2 v Qs.length vs ∧ ∀ i, i < Qs.length → Ow B w (vs.getD (i * 2) undef) (((Qs.getD i []).take 7).take n) ∧ Ow B w (vs.getD (i * 2 + 1) undef) (((Qs.getD i []).drop 7).take n)
theorem Prow.nil (B : Nat) (w : World) (n : Nat) : Prow B w (.slice none 0 0) n [] := ⟨[], rfl, World.ownsRow_nil _ _ _ _, fun i hi => by cases hi⟩
theorem Prow.below {B n : Nat} {w w' : World} {v : Value} {Qs : List (List Int)} (h : Prow B w v n Qs) (hb : Below w.heap.size w w') : Prow B w' v n Qs := by
  obtain ⟨vs, h1, h2, h3⟩ := h
  exact ⟨vs, h1, row_below h2 hb, fun i hi => ⟨row_below (h3 i hi).1 hb, row_below (h3 i hi).2 hb⟩⟩
theorem Prow.mono {B B' n : Nat} {w : World} {v : Value} {Qs : List (List Int)} (h : Prow B w v n Qs) (hB : B' ≤ B) : Prow B' w v n Qs := by
  obtain ⟨vs, h1, h2, h3⟩ := h
  refine ⟨vs, h1, ⟨h2.1, ?_⟩, fun i hi => ⟨(h3 i hi).1.mono hB, (h3 i hi).2.mono hB⟩⟩
  rcases h2.2 with h | ⟨g, cap, cur, e1, e2, e3⟩
  · exact .inl h
  · exact .inr ⟨g, cap, cur, e1, Nat.le_trans hB e2, e3⟩
theorem Prow.push {B n : Nat} {w w' : World} {v v' : Value} {Qs : List (List Int)} {p : List Int} {x y : Value} {vs : List Value} (h1 : vs.length = Qs.length * 2) (h2 : w.ownsRow B 50 2 v Qs.length vs) (h3 : ∀ i, i < Qs.length → Ow B w (vs.getD (i * 2) undef) (((Qs.getD i []).take 7).take n) ∧ Ow B w (vs.getD (i * 2 + 1) undef) (((Qs.getD i []).drop 7).take n))
    (hx : Ow B w x ((p.take 7).take n)) (hy : Ow B w y ((p.drop 7).take n)) (ho : w'.ownsRow B 50 2 v' (Qs.length + 1) (vs ++ [x, y])) (hg : (w.alloc (.cells #[x, y] 50)).grownBy w' v.ownBlock) : Prow B w' v' n (Qs ++ [p]) := by
  have ht := row_typ (h2.alloc (.cells #[x, y] 50))
  have keep : ∀ {u q}, Ow B w u q → Ow B w' u q := fun {u q} hx => row_other (t := 50) (World.ownsRow.alloc hx _) hg ht (by decide)
  refine ⟨vs ++ [x, y], by simp [h1]; omega, by rw [List.length_append]; exact ho, fun i hi => ?_⟩
  rw [List.length_append, List.length_singleton] at hi
  by_cases e : i < Qs.length
  · rw [gets_snoc p e, List.getD_eq_getElem?_getD, List.getElem?_append_left (by omega), ← List.getD_eq_getElem?_getD, List.getD_eq_getElem?_getD (l := vs ++ [x, y]), List.getElem?_append_left (by omega), ← List.getD_eq_getElem?_getD]
    exact ⟨keep (h3 i e).1, keep (h3 i e).2⟩
  · have e0 : i = Qs.length := by omega
    subst e0
    rw [gets_last, List.getD_eq_getElem?_getD, List.getElem?_append_right (by omega), List.getD_eq_getElem?_getD (l := vs ++ [x, y]), List.getElem?_append_right (by omega), h1, Nat.sub_self, show Qs.length * 2 + 1 - Qs.length * 2 = 1 by omega]
    exact ⟨keep hx, keep hy⟩
theorem run_mk2 (a1 a2 : Option Addr) (n1 c1 n2 c2 : Nat) (w : World) : (Instr.build 50 #[(0, .slice a1 n1 c1), (1, .slice a2 n2 c2)]).run Try.prog w = .ok (.agg #[.slice a1 n1 c1, .slice a2 n2 c2]) w := run_build w 50 _ _ (by kernel_rfl)
theorem run_mk2_op {o : Oper} {a : Act} {w : World} (x y : Operand) (ho : o.op = .build 50 #[(0, x), (1, y)]) (a1 a2 : Option Addr) (n1 c1 n2 c2 : Nat) (hx : a.eval x = .slice a1 n1 c1) (hy : a.eval y = .slice a2 n2 c2) : (execOp a.eval o).run Try.prog w = .ok (.value (.agg #[.slice a1 n1 c1, .slice a2 n2 c2])) w := by
  unfold execOp
  simp only [ho, Sem.run_bind, Sem.run_pure, List.map_toArray, List.map_cons, List.map_nil, hx, hy, run_mk2, Result.andThen_ok]
theorem wp_build2 {o : Oper} {a : Act} {w : World} {K : Act → World → Prop} {Q : Exit → Act → World → Prop} (x : Operand) (ho : o.op = .buildSlice 39 1 #[(0, x)]) (a1 a2 : Option Addr) (n1 c1 n2 c2 : Nat) (hx : a.eval x = .agg #[.slice a1 n1 c1, .slice a2 n2 c2])
    (h : K (a.put o.dst (.slice (some ⟨w.heap.size, 0, none⟩) 1 1)) (w.alloc (.cells #[.slice a1 n1 c1, .slice a2 n2 c2] 50))) : o.wp Try.prog a w K Q := by
  obtain ⟨i0, hi, hz0, hz1, hz2⟩ := info_parts infoP2
  refine wp_buildSlice 39 50 1 _ ho #[.slice a1 n1 c1, .slice a2 n2 c2] i0 _ Try.underlying39 hi hz0 (by rw [hz1]; decide) (by rw [hz1]; decide) ?_ h
  rw [hz1]
  have : (#[(0, x)].map fun (p : Nat × Operand) => (p.1, a.eval p.2)).toList = [(0, .agg #[.slice a1 n1 c1, .slice a2 n2 c2])] := by simp [hx]
  rw [this]
  show _ = _
  kernel_rfl
theorem wp_append2 {o : Oper} {a : Act} {w : World} {K : Act → World → Prop} {Q : Exit → Act → World → Prop} (s x : Operand) (ho : o.op = .call { callee := .builtin .append, args := #[s, x], argTypes := #[39, 39] })
    (B : Nat) (v : Value) (n : Nat) (vs : List Value) (hs : a.eval s = v) (hO : w.ownsRow B 50 2 v n vs) (g : Nat) (u1 u2 : Value) (h1 : u1.oneCell' = true) (h2 : u2.oneCell' = true) (hx : a.eval x = .slice (some ⟨g, 0, none⟩) 1 1) (hg : Blk w g 50 #[u1, u2])
    (hl : n ≤ 1000000) (hB : B ≤ w.heap.size)
    (h : ∀ v' w', w'.ownsRow B 50 2 v' (n + 1) (vs ++ [u1, u2]) → w.grownBy w' v.ownBlock → K (a.put o.dst v') w') : o.wp Try.prog a w K Q := by
  obtain ⟨i0, hi, hz0, hz1, hz2⟩ := info_parts infoP2
  obtain ⟨v', w', hr, k2, k3, k4, k5⟩ := run_append_own_at (P := Try.prog) w B 39 o.type 50 i0 _ 2 48 Try.underlying39 hi hz0 hz1 hz2 rfl (by decide) v n vs hO ⟨g, 0, none⟩ 1 1 [u1, u2] (by simp)
    (fun j u hu => by
      have : (⟨g, 0, none⟩ : Addr).add j = ⟨g, j, none⟩ := by unfold Addr.add; split <;> simp_all
      rw [this, hg.cell j]; simpa using hu)
    (fun u hu => by
      rcases List.mem_cons.1 hu with e | e
      · rw [e]; exact h1
      · rw [List.mem_singleton.1 e]; exact h2) (by unfold maxLen; omega) (by omega) hB
  unfold Oper.wp execOp
  simp only [ho, resolve, invoke, builtin, Sem.run_bind, Sem.run_pure, Result.andThen_ok, List.map_toArray, List.map_cons, List.map_nil, hs, hx, hr]
  exact h v' w' (by simpa using k2) k3

theorem wp_run {o : Oper} {a : Act} {w : World} {K : Act → World → Prop} {Q : Exit → Act → World → Prop} (v : Value) (hr : (execOp a.eval o).run Try.prog w = .ok (.value v) w) (h : K (a.put o.dst v) w) : o.wp Try.prog a w K Q := by
  unfold Oper.wp
  rw [hr]
  exact h
theorem pairs_comms {ps G Ps : List (List Int)} (_ : IsGrp ps) (hG : Els G) (hm : ∀ a, Gen G a ↔ a ∈ pks ps) (h : PairsOf G Ps) : (∀ c, c ∈ Ps.map cmP → c ∈ comms (pks ps)) ∧ (∀ c, c ∈ comms (pks ps) → c ∈ Ps.map cmP ∨ c = idL 7) := by
  constructor
  · intro c hc
    obtain ⟨p, hp', rfl⟩ := List.mem_map.1 hc
    obtain ⟨a, b, rfl, ha, hb⟩ := h.cm.ok p hp'
    rw [cmP_app (ha.el hG).2]
    exact mem_comms.2 ⟨a, b, (hm a).1 ha, (hm b).1 hb, rfl⟩
  · intro c hc
    obtain ⟨a, b, ha, hb, rfl⟩ := mem_comms.1 hc
    rcases List.mem_cons.1 (h.all a b ((hm a).2 ha) ((hm b).2 hb)) with e | e
    · exact .inr e
    · exact .inl e
/-- what Pairs of a group hands back -/
def PrsR (ps : List (List Int)) (z : List Int) (w w' : World) (e : Ending) : Prop :=
  (validL z = false ∧ e = .returned (.tuple #[.slice none 0 0, .int .i64 1])) ∨
  (validL z = true ∧ z ∉ ps ∧ e = .returned (.tuple #[.slice none 0 0, .int .i64 2])) ∨
  (validL z = true ∧ z ∈ ps ∧ ¬ Gen (comms (pks ps)) (pk7 z) ∧ e = .returned (.tuple #[.slice none 0 0, .int .i64 6])) ∨
  (validL z = true ∧ z ∈ ps ∧ Gen (comms (pks ps)) (pk7 z) ∧ ∃ x Qs, e = .returned (.tuple #[x, .int .i64 0]) ∧ Prow w.heap.size w' x (ps.getD 0 []).length Qs ∧ (∀ p ∈ Qs, ∃ a b, p = a ++ b ∧ a ∈ pks ps ∧ b ∈ pks ps) ∧ prodF (idL 7) Qs = pk7 z ∧ Lst (fun c => c ∈ comms (pks ps)) Qs.length (pk7 z))

set_option maxRecDepth 100000 in
set_option maxHeartbeats 8000000 in
theorem Pairs_ok (u v : Value) (ps : List (List Int)) (z : List Int) (w : World) (h : Sps w u ps) (hp : IsGrp ps) (k : Sl w v z) (hz : z.length ≤ 1000000) :
    Calls Try.prog 27 #[u, v] w fun e w' => Below w.heap.size w w' ∧ PrsR ps z w w' e := by
  have HH := Lib.hid h
  have HP := Lib.hid hp
  have HK := Lib.hid k
  obtain ⟨a, cap, rfl, _⟩ := h
  obtain ⟨za, zc, rfl, _⟩ := k
  obtain ⟨l, hl⟩ : ∃ l, l = ps.length := ⟨_, rfl⟩
  rw [← hl] at HH ⊢
  obtain ⟨zn, hzn⟩ : ∃ zn, zn = z.length := ⟨_, rfl⟩
  have HZn := Lib.hid hzn
  rw [← hzn] at HK hz ⊢
  obtain ⟨n, hn⟩ : ∃ n, n = (ps.getD 0 []).length := ⟨_, rfl⟩
  have HN := Lib.hid hn
  have h7 : n ≤ 7 := by rw [hn]; exact hp.seven
  clear hp hl hn hzn
  go_enter Try.func27, Try.ntmps27
  go_wp2_with fail
  refine (closedOf_any _ ps _ HH.out HP.out.small).mono ?_
  rintro e w1 ⟨hb1, hcase⟩
  obtain ⟨_, c, m, vg, vl, G, L, rfl, ho, hm⟩ := hcase.resolve_left (fun h => h.1 HP.out)
  rw [← HN.out] at ho
  have HO := Lib.hid ho.clo
  have HG := Lib.hid ho.grp
  have HM := Lib.hid hm
  have HB1 := Lib.hid hb1
  have HK1 := Lib.hid (HK.out.below hb1)
  have HVz := Lib.hid (show Calls Try.prog 66 #[.slice za zn zc] w1 fun e w' => e = .returned (.bool (validL z)) ∧ Below w1.heap.size w1 w' from valid_any _ z w1 (HK.out.below hb1) (by rw [← HZn.out]; exact hz))
  clear ho hm hb1 hcase
  go_wp2_with fail
  refine HVz.out.mono ?_
  rintro e w2 ⟨rfl, hb2⟩
  have HO2 := Lib.hid (HO.out.below hb2)
  have HB2 := Lib.hid (HB1.out.trans (hb2.mono HB1.out.size))
  have HK2 := Lib.hid (HK1.out.below hb2)
  clear hb2 HO HB1 HK1 HVz
  by_cases hv : validL z = true
  · rw [hv]
    have HV := Lib.hid hv
    have HPk := Lib.hid (show Calls Try.prog 67 #[.slice za zn zc] w2 fun e w' => e = .returned (.agg (u8s (pk7 z))) ∧ Below w2.heap.size w2 w' from pack_any _ z w2 HK2.out hv)
    clear hv
    go_wp2_with fail
    refine HPk.out.mono ?_
    rintro e w3 ⟨rfl, hb3⟩
    have HE := Lib.hid (pk7_el HV.out)
    have HQ0 := Lib.hid (Blk.new w3 78 #[.int .u8 0, .int .u8 0, .int .u8 0, .int .u8 0, .int .u8 0, .int .u8 0, .int .u8 0])
    have bq := new_below w3 78 #[.int .u8 0, .int .u8 0, .int .u8 0, .int .u8 0, .int .u8 0, .int .u8 0, .int .u8 0] (pk7 z)
    have b4 := hb3.trans (bq.mono hb3.size)
    have HQ := Lib.hid (new_blk w3 78 #[.int .u8 0, .int .u8 0, .int .u8 0, .int .u8 0, .int .u8 0, .int .u8 0, .int .u8 0] (pk7 z))
    have HO4 := Lib.hid (HO2.out.below b4)
    have HB4 := Lib.hid (HB2.out.trans (b4.mono HB2.out.size))
    clear hb3 bq b4 HPk HO2 HB2 HK2
    obtain ⟨y, hy⟩ : ∃ y, y = pk7 z := ⟨_, rfl⟩
    have HY := Lib.hid hy
    rw [← hy] at HE HQ HO4 HB4 ⊢
    clear hy
    go_wp2_with (refine wpList_store_row rfl 78 _ _ rfl w3.heap.size (u8s y) rfl rfl 78 #[.int .u8 0, .int .u8 0, .int .u8 0, .int .u8 0, .int .u8 0, .int .u8 0, .int .u8 0] HQ0.out (infoElem' HE.out.2) (by rw [size_u8s, HE.out.2]; rfl) (u8s_one y) ?_)
    obtain ⟨wy, hwy⟩ : ∃ wy, wy = (w3.alloc (.cells #[.int .u8 0, .int .u8 0, .int .u8 0, .int .u8 0, .int .u8 0, .int .u8 0, .int .u8 0] 78)).setRow w3.heap.size (u8s y) := ⟨_, rfl⟩
    obtain ⟨gb, hgb⟩ : ∃ gb, gb = w3.heap.size := ⟨_, rfl⟩
    have HQ := Lib.hid (show Blk wy gb 78 (u8s y) by rw [hwy, hgb]; exact HQ.out)
    have HO4 := Lib.hid (show Clo w.heap.size wy c m n vg vl G L by rw [hwy]; exact HO4.out)
    have HB4 := Lib.hid (show Below w.heap.size w wy by rw [hwy]; exact HB4.out)
    rw [← hwy, ← hgb]
    clear hwy hgb HQ0
    obtain ⟨M, m1, m2, m3⟩ := HO4.out.set
    have HMs := Lib.hid m1
    have HMm := Lib.hid m3
    have HIn := Lib.hid (show z.length = n → (y ∈ M ↔ z ∈ ps) from fun hl => by
      rw [m3, HM.out, HY.out]
      exact ⟨fun h => (pks_mem HP.out.1 (hl.trans HN.out)).1 (HP.out.2.2 _ h), fun h => Gen.of_mem HP.out.1.els (List.mem_map.2 ⟨z, h, rfl⟩)⟩)
    have HNin := Lib.hid (show z ∈ ps → z.length = n from fun h => by rw [HN.out]; exact (HP.out.1.mem h).2)
    clear m1 m2 m3
    have hS : Below wy.heap.size wy wy.drew := below_drewN' (Below.refl _ _) 1
    refine wp_region_held_all (S := fun w' => Below wy.heap.size wy w') (by kernel_rfl) ?_
    refine held_take (i := 0) (v := .slice za zn zc) rfl rfl (by kernel_rfl) (by kernel_rfl) (by kernel_rfl) (fun w' h => by go_simp) hS ?_
    refine held_take (i := 1) (v := .int .i64 zn) rfl rfl (by kernel_rfl) (by kernel_rfl) (by kernel_rfl) (fun w' h => by go_simp) hS ?_
    refine held_take (i := 2) (v := .pointer (some ⟨c, 0, none⟩)) rfl rfl (by kernel_rfl) (by kernel_rfl) (by kernel_rfl) (fun w' h => by go_simp) hS ?_
    refine held_take (i := 3) (v := .pointer (some ⟨c, 0, none⟩)) rfl rfl (by kernel_rfl) (by kernel_rfl) (by kernel_rfl) (fun w' h => by go_simp) hS ?_
    simp [Act.put]
    refine held_take (i := 4) (v := .pointer (some ⟨c, 0, none⟩)) rfl rfl (by kernel_rfl) (by kernel_rfl) (by kernel_rfl) (fun w' h => by go_simp) hS ?_
    refine held_take (i := 5) (v := .int .i64 n) rfl rfl (by kernel_rfl) (by kernel_rfl) (by kernel_rfl) (fun w' h => by have h1 := (HO4.out.cells.below h).cell 0; go_simp) hS ?_
    simp [Act.put]
    by_cases hne : zn = n
    · subst hne
      refine held_take (i := 6) (v := .bool false) rfl rfl (by kernel_rfl) (by kernel_rfl) (by kernel_rfl) (fun w' h => by go_simp) hS ?_
      refine held_take (i := 7) (v := .bool false) rfl rfl (by kernel_rfl) (by kernel_rfl) (by kernel_rfl) (fun w' h => by go_simp) hS ?_
      simp [Act.put]
      refine held_take_w (i := 8) (v := .pointer (some ⟨c, 0, none⟩)) rfl (by kernel_rfl) (by kernel_rfl) (by kernel_rfl) (by kernel_rfl) (fun w' h => by go_simp) hS ?_
      refine held_take_w (i := 9) (v := .pointer (some ⟨c, 0, none⟩)) rfl (by kernel_rfl) (by kernel_rfl) (by kernel_rfl) (by kernel_rfl) (fun w' h => by go_simp) hS ?_
      refine held_take_w (i := 10) (v := .pointer (some ⟨c, 3, none⟩)) rfl (by kernel_rfl) (by kernel_rfl) (by kernel_rfl) (by kernel_rfl) (fun w' h => by go_simp) hS ?_
      simp [Act.put]
      refine held_take_w (i := 11) (v := .map (some m)) rfl (by kernel_rfl) (by kernel_rfl) (by kernel_rfl) (by kernel_rfl) (fun w' h => by have h1 := (HO4.out.cells.below h).cell 3; go_simp) hS ?_
      refine held_take_w (i := 12) (v := .agg (u8s y)) rfl (by kernel_rfl) (by kernel_rfl) (by kernel_rfl) (by kernel_rfl) (fun w' h => run_row_op 78 _ rfl gb rfl 78 (u8s y) (0, 0) _ (HQ.out.below h) Try.underlying78 rfl (infoElem' HE.out.2)) hS ?_
      simp [Act.put]
      refine held_take_w (i := 13) (v := .bool (decide (y ∈ M))) rfl (by kernel_rfl) (by kernel_rfl) (by kernel_rfl) (by kernel_rfl) (fun w' h => run_look_op _ _ rfl m M rfl (HMs.out.below h) y rfl HE.out.e7) hS ?_
      refine held_take_w (i := 14) (v := .bool (!decide (y ∈ M))) rfl (by kernel_rfl) (by kernel_rfl) (by kernel_rfl) (by kernel_rfl) (fun w' h => by go_simp) hS ?_
      simp [Act.put]
      refine held_take (i := 15) (v := .bool (!decide (y ∈ M))) rfl rfl (by kernel_rfl) (by kernel_rfl) (by kernel_rfl) (fun w' h => by go_simp) hS ?_
      refine held_done (by kernel_rfl) ?_
      simp [Act.put]
      have HB5 := Lib.hid (HB4.out.trans (hS.mono HB4.out.size))
      have HO5 := Lib.hid (HO4.out.below hS)
      have HQ5 := Lib.hid (HQ.out.below hS)
      clear hS HO4 HB4 HQ HMs
      generalize wy.drew = wq at *
      by_cases hin : y ∈ M
      · have hzp : z ∈ ps := (HIn.out HZn.out.symm).1 hin
        have HZp := Lib.hid hzp
        rw [decide_eq_true hin]
        clear hin hzp
        go_wp2_with fail
        refine wp_region_held_all (S := fun w' => Blk w' gb 78 (u8s y)) (by kernel_rfl) ?_
        have hS : Blk wq.drew gb 78 (u8s y) := HQ5.out
        have hdr : Below wq.heap.size wq wq.drew := below_drewN' (Below.refl _ _) 1
        refine held_take (i := 0) (v := .pointer (some ⟨c, 0, none⟩)) rfl rfl (by kernel_rfl) (by kernel_rfl) (by kernel_rfl) (fun w' h => by go_simp) hS ?_
        refine held_take (i := 5) (v := .agg (u8s y)) rfl rfl (by kernel_rfl) (by kernel_rfl) (by kernel_rfl) (fun w' h => run_row_op 78 _ rfl gb rfl 78 (u8s y) (0, 0) _ h Try.underlying78 rfl (infoElem' HE.out.2)) hS ?_
        simp [Act.put]
        refine held_only (i := 1) rfl rfl (by kernel_rfl) (wp_call_any 58 Try.func58 (by kernel_rfl) rfl _ _ rfl #[.pointer (some ⟨c, 0, none⟩)] rfl ((derive_any (HO5.out.below hdr) HG.out).mono ?_))
        rintro e w6 ⟨c', m', vg', vl', D, K, rfl, ho6, hd6, hb6⟩
        have hB6 := hdr.trans (hb6.mono hdr.size)
        have hS6 : Blk w6 gb 78 (u8s y) := hS.below hb6
        refine ⟨_, rfl, hS6, ?_⟩
        have HmL := Lib.hid (show ∀ a, Gen G a ↔ a ∈ pks ps from fun a => ((HG.out.mem a).symm.trans (HM.out a)).trans ⟨HP.out.2.2 a, Gen.of_mem HP.out.1.els⟩)
        have HKm := Lib.hid (show y ∈ K ↔ Gen (comms (pks ps)) y from ((D2.isDer HG.out ho6.grp hd6).same (fun a => (HG.out.mem a).trans (HmL.out a))) y)
        have k3 := ho6.clo.cells.cell 3
        obtain ⟨M', q1, q2, q3⟩ := ho6.clo.set
        have HMq := Lib.hid (show y ∈ M' ↔ Gen (comms (pks ps)) y from (q3 y).trans HKm.out)
        have HS6 := Lib.hid hS6
        clear hS6
        obtain ⟨zz, hzz⟩ : ∃ zz, zz = decide (y ∈ M') := ⟨_, rfl⟩
        have HZz := Lib.hid hzz
        clear hzz
        simp [Act.put]
        refine held_only (i := 2) rfl rfl (by kernel_rfl) ?_
        go_simp
        refine ⟨HS6.out, ?_⟩
        refine held_only (i := 3) rfl rfl (by kernel_rfl) ?_
        go_simp
        refine ⟨HS6.out, ?_⟩
        refine held_only (i := 4) rfl rfl (by kernel_rfl) ?_
        go_simp
        refine ⟨HS6.out, ?_⟩
        refine held_only (i := 6) rfl rfl (by kernel_rfl) (wp_run (.bool zz) (by rw [HZz.out]; exact run_look_op _ _ rfl m' M' rfl q1 y rfl HE.out.e7) ⟨HS6.out, ?_⟩)
        simp [Act.put]
        refine held_only (i := 7) rfl rfl (by kernel_rfl) ?_
        go_simp
        refine ⟨HS6.out, held_done (by kernel_rfl) ?_⟩
        have HB6 := Lib.hid (HB5.out.trans (hB6.mono HB5.out.size))
        have HO6 := Lib.hid (HO5.out.below hB6)
        have HQ6 := HS6
        clear hS hdr hb6 hB6 ho6 hd6 q1 q2 q3 k3 HO5 HQ5 HB5 HKm
        cases zz with
        | true =>
          have HGy := Lib.hid (HMq.out.1 (of_decide_eq_true HZz.out.symm))
          clear HMq HZz
          go_wp2_with fail
          refine wp_region_held_all (S := fun w' => Blk w' gb 78 (u8s y)) (by kernel_rfl) ?_
          have hS : Blk w6.drew gb 78 (u8s y) := HQ6.out
          have hdr : Below w6.heap.size w6 w6.drew := below_drewN' (Below.refl _ _) 1
          refine held_take (i := 0) (v := .pointer (some ⟨c, 0, none⟩)) rfl rfl (by kernel_rfl) (by kernel_rfl) (by kernel_rfl) (fun w' h => by go_simp) hS ?_
          refine held_take (i := 2) (v := .agg (u8s y)) rfl rfl (by kernel_rfl) (by kernel_rfl) (by kernel_rfl) (fun w' h => run_row_op 78 _ rfl gb rfl 78 (u8s y) (0, 0) _ h Try.underlying78 rfl (infoElem' HE.out.2)) hS ?_
          refine held_take (i := 5) (v := .int .i64 0) rfl rfl (by kernel_rfl) (by kernel_rfl) (by kernel_rfl) (fun w' h => by go_simp) hS ?_
          simp [Act.put]
          refine held_only (i := 1) rfl rfl (by kernel_rfl) (wp_call_any 69 Try.func69 (by kernel_rfl) rfl _ _ rfl #[.pointer (some ⟨c, 0, none⟩)] rfl ((commutators_any (HO6.out.below hdr) HG.out).mono ?_))
          rintro e w7 ⟨pv, Ps, rfl, ho7, hp7, hb7⟩
          have hB7 := hdr.trans (hb7.mono hdr.size)
          have hS7 : Blk w7 gb 78 (u8s y) := hS.below hb7
          have hpc := pairs_comms HP.out HG.out.gels HmL.out hp7
          have hgen : Gen (Ps.map cmP) y := Gen.sub (hp7.cm.els HG.out.gels) (fun c hc => by
            rcases hpc.2 c hc with e | e
            · exact Gen.of_mem (hp7.cm.els HG.out.gels) e
            · rw [e]; exact .one) HGy.out
          have hlen := hp7.cm.len HG.out.gels
          refine ⟨_, rfl, hS7, ?_⟩
          simp [Act.put]
          refine held_only (i := 3) rfl rfl (by kernel_rfl) (wp_call_any 68 Try.func68 (by kernel_rfl) rfl _ _ rfl #[pv, .agg (u8s y)] rfl ((shortest_any ho7 (fun p hp => by
            obtain ⟨a, b, e, ha, hb⟩ := hp7.cm.ok p hp
            exact ⟨a, b, e, ha.el HG.out.gels, hb.el HG.out.gels⟩) (by omega) HE.out hgen).mono ?_))
          rintro e w8 ⟨qv, Qs, rfl, ho8, hq8, hf8, hl8, hb8⟩
          have hB8 := hB7.trans (hb8.mono hB7.size)
          have hS8 : Blk w8 gb 78 (u8s y) := hS7.below hb8
          have HQin := Lib.hid (show ∀ p ∈ Qs, ∃ a b, p = a ++ b ∧ a ∈ pks ps ∧ b ∈ pks ps from fun p hp => by
            obtain ⟨a, b, e, ha, hb⟩ := hp7.cm.ok p (hq8 p hp)
            exact ⟨a, b, e, (HmL.out a).1 ha, (HmL.out b).1 hb⟩)
          have HQL := Lib.hid (lst_same hpc.1 hpc.2 (fun c hc => hp7.cm.els HG.out.gels c hc) hl8.1)
          have HQF := Lib.hid hf8
          have hql : Qs.length ≤ 823543 := hl8.2
          have HQo := Lib.hid ho8
          obtain ⟨qa, qc, rfl⟩ := ho8.slice
          obtain ⟨qn, hqn⟩ : ∃ qn, qn = Qs.length := ⟨_, rfl⟩
          have HQn := Lib.hid hqn
          rw [← hqn] at HQo hql ⊢
          have HS8 := Lib.hid hS8
          refine ⟨_, rfl, hS8, ?_⟩
          clear hS8
          simp [Act.put]
          refine held_only (i := 4) rfl rfl (by kernel_rfl) ?_
          go_simp
          refine ⟨HS8.out, held_done (by kernel_rfl) ?_⟩
          have HB8 := Lib.hid (HB6.out.trans (hB8.mono HB6.out.size))
          have HO8 := Lib.hid (HO6.out.below hB8)
          clear hS hS7 hdr hb7 hb8 hB7 hB8 ho7 hp7 hpc hgen hlen ho8 hq8 hf8 hl8 hqn HO6 HQ6 HB6
          go_wp2_with fail
          have HP8 := Lib.hid (Prow.nil w8.heap.size w8 zn)
          go_loopw [9, 55] (fun rv iv wr => ∃ i : Nat, iv = .int .i64 i ∧ i ≤ qn ∧ Hid (Prow w8.heap.size wr rv zn (Qs.take i)) ∧ Hid (Below w8.heap.size w8 wr)) (fun _ iv _ => qn - (intOf iv).toNat)
          case atStart => exact ⟨0, rfl, Nat.zero_le _, HP8, Lib.hid (Below.refl _ _)⟩
          case round =>
            clear HP8
            obtain ⟨i, rfl, hi, HPr, HB⟩ := hrel
            have hw8 := HB8.out.size
            by_cases hlt : i < qn
            · have hlt2 : i < Qs.length := by rw [← HQn.out]; exact hlt
              obtain ⟨gq, cq, e⟩ := HQo.out.form (by rw [← HQn.out]; omega)
              injection e with e1 e2 e3
              subst e1 e3
              clear e2
              have hrq := Opr.range (HQo.out.below HB.out) (fun p hp => by
                obtain ⟨a, b, e, ha, hb⟩ := HQin.out p hp
                rw [e, List.length_append, (HP.out.1.els a ha).2, (HP.out.1.els b hb).2]) i (by rw [← HQn.out]; exact hlt)
              obtain ⟨p, hp⟩ : ∃ p, p = Qs.getD i [] := ⟨_, rfl⟩
              obtain ⟨b1, b2, hab, hb1, hb2⟩ := HQin.out p (by rw [hp]; exact getD_mem (by rw [← HQn.out]; exact hlt))
              have hE1 := HP.out.1.els b1 hb1
              have hE2 := HP.out.1.els b2 hb2
              have hp14 : p.length = 14 := by rw [hab, List.length_append, hE1.2, hE2.2]
              have hst : Qs.take (i + 1) = Qs.take i ++ [p] := by
                have h1 : i < Qs.length := by rw [← HQn.out]; exact hlt
                rw [List.take_succ_eq_append_getElem h1, hp]
                simp [h1]
              rw [← hp] at hrq
              have HRq := Lib.hid hrq
              have HAb := Lib.hid hab
              have HE1 := Lib.hid hE1
              have HE2 := Lib.hid hE2
              have HP14 := Lib.hid hp14
              have HSt := Lib.hid hst
              have HQ0 := Lib.hid (Blk.new wr 89 z14)
              have bq := new_below wr 89 z14 p
              have HQb := Lib.hid (new_blk wr 89 z14 p)
              unfold z14 at HQ0 bq HQb
              clear hrq hp hab hb1 hb2 hE1 hE2 hp14 hst
              go_wp2_with (first | (refine wpList_load_mid rfl 89 _ rfl gq (i * 14) rfl (p.map (Value.int .u8)) _ HRq.out Try.underlying89 rfl (infoPr14 HP14.out) ?_) | (refine wpList_store_row rfl 89 _ _ rfl wr.heap.size (u8s p) rfl rfl 89 _ HQ0.out (infoPr' HP14.out) (by rw [size_u8s, HP14.out]; rfl) (u8s_one p) ?_))
              obtain ⟨wz, hwz⟩ : ∃ wz, wz = (wr.alloc (.cells #[.int .u8 0, .int .u8 0, .int .u8 0, .int .u8 0, .int .u8 0, .int .u8 0, .int .u8 0, .int .u8 0, .int .u8 0, .int .u8 0, .int .u8 0, .int .u8 0, .int .u8 0, .int .u8 0] 89)).setRow wr.heap.size (u8s p) := ⟨_, rfl⟩
              obtain ⟨pb, hpb⟩ : ∃ pb, pb = wr.heap.size := ⟨_, rfl⟩
              rw [← hwz] at bq HQb ⊢
              rw [← hpb] at HQb ⊢
              have HPz := Lib.hid (HPr.out.below bq)
              have HBz := Lib.hid (HB.out.trans (bq.mono HB.out.size))
              clear hwz hpb bq HPr HB HQ0 HRq
              have hS : Below wz.heap.size wz wz.drew := below_drewN' (Below.refl _ _) 1
              have hC := (HO8.out.cells.below HBz.out).below hS
              have hT : Blk wz.drew c 75 #[.int .i64 zn, vg, vl, .map (some m)] ∧ Blk wz.drew pb 89 (u8s p) := ⟨hC, HQb.out⟩
              obtain ⟨rs, o1, o2, o3⟩ := HPz.out
              obtain ⟨rl, hrl⟩ : ∃ rl, rl = (Qs.take i).length := ⟨_, rfl⟩
              have hrl2 : rl ≤ 823543 := by have h1 := List.length_take_le i Qs; omega
              rw [← hrl] at o1 o2 o3
              have O1 := Lib.hid o1
              have O2 := Lib.hid o2
              have O3 := Lib.hid o3
              have HRl := Lib.hid hrl
              clear hC o1 o2 o3 hrl HPz
              refine wp_region_held_all (S := fun w' => Blk w' c 75 #[.int .i64 zn, vg, vl, .map (some m)] ∧ Blk w' pb 89 (u8s p)) (by kernel_rfl) ?_
              refine held_take (i := 0) (v := u9) rfl rfl (by kernel_rfl) (by kernel_rfl) (by kernel_rfl) (fun w' h => by go_simp) hT ?_
              refine held_take (i := 1) (v := .pointer (some ⟨pb, 0, none⟩)) rfl rfl (by kernel_rfl) (by kernel_rfl) (by kernel_rfl) (fun w' h => by go_simp) hT ?_
              simp [Act.put]
              refine held_take (i := 2) (v := .agg (u8s b1)) rfl rfl (by kernel_rfl) (by kernel_rfl) (by kernel_rfl) (fun w' h => run_mid_op 78 _ rfl pb 0 rfl (b1.map (Value.int .u8)) _ (by
                have h1 := blk_range h.2 0 7
                rw [HAb.out, List.drop_zero, List.take_left' HE1.out.2] at h1
                exact h1) Try.underlying78 rfl (info7 HE1.out)) hT ?_
              refine held_take (i := 3) (v := .pointer (some ⟨c, 0, none⟩)) rfl rfl (by kernel_rfl) (by kernel_rfl) (by kernel_rfl) (fun w' h => by go_simp) hT ?_
              refine held_take (i := 4) (v := .pointer (some ⟨c, 0, none⟩)) rfl rfl (by kernel_rfl) (by kernel_rfl) (by kernel_rfl) (fun w' h => by go_simp) hT ?_
              simp [Act.put]
              refine held_take (i := 5) (v := .pointer (some ⟨c, 0, none⟩)) rfl rfl (by kernel_rfl) (by kernel_rfl) (by kernel_rfl) (fun w' h => by go_simp) hT ?_
              refine held_take (i := 6) (v := .int .i64 zn) rfl rfl (by kernel_rfl) (by kernel_rfl) (by kernel_rfl) (fun w' h => by have h1 := h.1.cell 0; go_simp) hT ?_
              refine held_take (i := 8) (v := .pointer (some ⟨pb, 7, none⟩)) rfl rfl (by kernel_rfl) (by kernel_rfl) (by kernel_rfl) (fun w' h => by go_simp) hT ?_
              simp [Act.put]
              refine held_take (i := 9) (v := .agg (u8s b2)) rfl rfl (by kernel_rfl) (by kernel_rfl) (by kernel_rfl) (fun w' h => run_mid_op 78 _ rfl pb 7 rfl (b2.map (Value.int .u8)) _ (by
                have h1 := blk_range h.2 7 7
                rw [HAb.out, List.drop_left' HE1.out.2, List.take_of_length_le (by rw [HE2.out.2]; exact Nat.le_refl _)] at h1
                exact h1) Try.underlying78 rfl (info7 HE2.out)) hT ?_
              refine held_take (i := 10) (v := .pointer (some ⟨c, 0, none⟩)) rfl rfl (by kernel_rfl) (by kernel_rfl) (by kernel_rfl) (fun w' h => by go_simp) hT ?_
              refine held_take (i := 11) (v := .pointer (some ⟨c, 0, none⟩)) rfl rfl (by kernel_rfl) (by kernel_rfl) (by kernel_rfl) (fun w' h => by go_simp) hT ?_
              simp [Act.put]
              refine held_take (i := 12) (v := .pointer (some ⟨c, 0, none⟩)) rfl rfl (by kernel_rfl) (by kernel_rfl) (by kernel_rfl) (fun w' h => by go_simp) hT ?_
              refine held_take (i := 13) (v := .int .i64 zn) rfl rfl (by kernel_rfl) (by kernel_rfl) (by kernel_rfl) (fun w' h => by have h1 := h.1.cell 0; go_simp) hT ?_
              simp [Act.put]
              refine held_only (i := 7) rfl rfl (by kernel_rfl) (wp_call_any 70 Try.func70 (by kernel_rfl) rfl _ _ rfl #[.agg (u8s b1), .int .i64 zn] rfl ((unpack_any b1 zn _ HE1.out.e7 h7).mono ?_))
              rintro e wA ⟨x1, rfl, hx1, hbA⟩
              have hSA := hS.trans (hbA.mono hS.size)
              have hTA : Blk wA c 75 #[.int .i64 zn, vg, vl, .map (some m)] ∧ Blk wA pb 89 (u8s p) := ⟨hT.1.below hbA, hT.2.below hbA⟩
              refine ⟨_, rfl, hTA, ?_⟩
              simp [Act.put]
              refine held_only (i := 14) rfl rfl (by kernel_rfl) (wp_call_any 70 Try.func70 (by kernel_rfl) rfl _ _ rfl #[.agg (u8s b2), .int .i64 zn] rfl ((unpack_any b2 zn _ HE2.out.e7 h7).mono ?_))
              rintro e wB ⟨x2, rfl, hx2, hbB⟩
              have hSB := hSA.trans (hbB.mono hSA.size)
              have hTB : Blk wB c 75 #[.int .i64 zn, vg, vl, .map (some m)] ∧ Blk wB pb 89 (u8s p) := ⟨hTA.1.below hbB, hTA.2.below hbB⟩
              refine ⟨_, rfl, hTB, ?_⟩
              have hwz := HBz.out.size
              have hX1 : Ow w8.heap.size wB x1 ((p.take 7).take zn) := by
                rw [HAb.out, List.take_left' HE1.out.2]
                exact (hx1.below hbB).mono (Nat.le_trans hwz hS.size)
              have hX2 : Ow w8.heap.size wB x2 ((p.drop 7).take zn) := by
                rw [HAb.out, List.drop_left' HE1.out.2]
                exact hx2.mono (Nat.le_trans hwz hSA.size)
              obtain ⟨a1, c1, rfl, _⟩ := hX1.sl
              obtain ⟨a2, c2, rfl, _⟩ := hX2.sl
              obtain ⟨l1, hl1⟩ : ∃ l1, l1 = ((p.take 7).take zn).length := ⟨_, rfl⟩
              obtain ⟨l2, hl2⟩ : ∃ l2, l2 = ((p.drop 7).take zn).length := ⟨_, rfl⟩
              rw [← hl1] at hX1 ⊢
              rw [← hl2] at hX2 ⊢
              have HX1 := Lib.hid hX1
              have HX2 := Lib.hid hX2
              have hBz := HBz.out.trans (hSB.mono hwz)
              have hO2 := row_below O2.out hSB
              have HO3 := Lib.hid (show ∀ j, j < rl → Ow w8.heap.size wB (rs.getD (j * 2) undef) ((((Qs.take i).getD j []).take 7).take zn) ∧ Ow w8.heap.size wB (rs.getD (j * 2 + 1) undef) ((((Qs.take i).getD j []).drop 7).take zn) from fun j hj => ⟨row_below (O3.out j hj).1 hSB, row_below (O3.out j hj).2 hSB⟩)
              have hzB := hBz.size
              clear hx1 hx2 hX1 hX2 hl1 hl2 hbA hbB hTA hSA hS hT hSB hwz
              simp [Act.put]
              refine held_take (i := 15) (v := .agg #[.slice a1 l1 c1, .slice a2 l2 c2]) rfl rfl (by kernel_rfl) (by kernel_rfl) (by kernel_rfl) (fun w' h => run_mk2_op _ _ rfl a1 a2 l1 c1 l2 c2 rfl rfl) hTB ?_
              simp [Act.put]
              refine held_only (i := 16) rfl rfl (by kernel_rfl) (wp_build2 _ rfl a1 a2 l1 c1 l2 c2 rfl ⟨⟨hTB.1.alloc _, hTB.2.alloc _⟩, ?_⟩)
              simp [Act.put]
              refine held_only (i := 17) rfl rfl (by kernel_rfl) (wp_append2 _ _ rfl w8.heap.size u9 rl rs rfl (hO2.alloc _) wB.heap.size (.slice a1 l1 c1) (.slice a2 l2 c2) rfl rfl rfl (Blk.new wB _ _) (by omega) (by rw [World.size_alloc]; omega) ?_)
              intro v' wC hown hgrow
              have ht := row_typ (hO2.alloc (.cells #[.slice a1 l1 c1, .slice a2 l2 c2] 50))
              have hTC : Blk wC c 75 #[.int .i64 zn, vg, vl, .map (some m)] ∧ Blk wC pb 89 (u8s p) := ⟨(hTB.1.alloc _).grown hgrow ht (by decide), (hTB.2.alloc _).grown hgrow ht (by decide)⟩
              have HPC := Lib.hid (show Prow w8.heap.size wC v' zn (Qs.take (i + 1)) from by
                rw [HSt.out]
                have o1 := O1.out
                have o3 := HO3.out
                have o2 := hO2
                rw [HRl.out] at o1 o2 o3 hown
                exact Prow.push o1 o2 o3 HX1.out HX2.out hown hgrow)
              have HBC := Lib.hid (show Below w8.heap.size w8 wC from (hBz.alloc hzB (.cells #[.slice a1 l1 c1, .slice a2 l2 c2] 50)).grown hgrow (by rw [World.size_alloc]; omega) (fun r e => (World.ownsRow.lt (hO2.alloc (.cells #[.slice a1 l1 c1, .slice a2 l2 c2] 50)) r e).1))
              refine ⟨hTC, ?_⟩
              simp [Act.put]
              refine held_take (i := 18) (v := v') rfl rfl (by kernel_rfl) (by kernel_rfl) (by kernel_rfl) (fun w' h => by go_simp) hTC ?_
              refine held_done (by kernel_rfl) ?_
              clear hown hgrow ht hTC hTB hO2 hBz
              simp [Act.put]
              go_wp2_with fail
              go_roundw
              case rel => exact ⟨i + 1, by go_num, by omega, HPC, HBC⟩
              case measure => simp [intOf]; omega
            · have HPf := Lib.hid (show Prow w.heap.size wr u9 zn Qs from by
                have h1 := HPr.out
                rw [List.take_of_length_le (by rw [← HQn.out]; omega)] at h1
                exact h1.mono hw8)
              have HBf := Lib.hid (HB8.out.trans (HB.out.mono hw8))
              clear HPr HB
              have hlt2 : ¬ i < Qs.length := by rw [← HQn.out]; exact hlt
              go_wp2_with fail
              go_ret2
              exact ⟨HBf.out, .inr (.inr (.inr ⟨HV.out, HZp.out, by rw [← HY.out]; exact HGy.out, u9, Qs, rfl, by rw [← HN.out]; exact HPf.out, HQin.out, by rw [← HY.out]; exact HQF.out, by rw [← HY.out]; exact HQL.out⟩))⟩
        | false =>
          have HNg := Lib.hid (show ¬ Gen (comms (pks ps)) (pk7 z) from by rw [← HY.out]; exact fun h => of_decide_eq_false HZz.out.symm (HMq.out.2 h))
          go_wp2_with fail
          go_ret2
          exact ⟨HB6.out, .inr (.inr (.inl ⟨HV.out, HZp.out, HNg.out, rfl⟩))⟩
      · rw [decide_eq_false hin]
        have HNz := Lib.hid (show z ∉ ps from fun h => hin ((HIn.out HZn.out.symm).2 h))
        clear hin
        go_wp2_with fail
        go_ret2
        exact ⟨HB5.out, .inr (.inl ⟨HV.out, HNz.out, rfl⟩)⟩
    · have hne2 : ¬ ((zn : Int) = n) := by omega
      refine held_take (i := 6) (v := .bool true) rfl rfl (by kernel_rfl) (by kernel_rfl) (by kernel_rfl) (fun w' h => by go_simp) hS ?_
      refine held_take (i := 7) (v := .bool true) rfl rfl (by kernel_rfl) (by kernel_rfl) (by kernel_rfl) (fun w' h => by go_simp) hS ?_
      simp [Act.put]
      refine held_skip (i := 8) rfl (by kernel_rfl) (by kernel_rfl) (by kernel_rfl) (by kernel_rfl) hS ?_
      refine held_skip (i := 9) rfl (by kernel_rfl) (by kernel_rfl) (by kernel_rfl) (by kernel_rfl) hS ?_
      refine held_skip (i := 10) rfl (by kernel_rfl) (by kernel_rfl) (by kernel_rfl) (by kernel_rfl) hS ?_
      refine held_skip (i := 11) rfl (by kernel_rfl) (by kernel_rfl) (by kernel_rfl) (by kernel_rfl) hS ?_
      refine held_skip (i := 12) rfl (by kernel_rfl) (by kernel_rfl) (by kernel_rfl) (by kernel_rfl) hS ?_
      refine held_skip (i := 13) rfl (by kernel_rfl) (by kernel_rfl) (by kernel_rfl) (by kernel_rfl) hS ?_
      refine held_skip (i := 14) rfl (by kernel_rfl) (by kernel_rfl) (by kernel_rfl) (by kernel_rfl) hS ?_
      simp [Act.put]
      refine held_take (i := 15) (v := .bool true) rfl rfl (by kernel_rfl) (by kernel_rfl) (by kernel_rfl) (fun w' h => by go_simp) hS ?_
      refine held_done (by kernel_rfl) ?_
      simp [Act.put]
      have HB5 := Lib.hid (HB4.out.trans (hS.mono HB4.out.size))
      have HNz := Lib.hid (show z ∉ ps from fun h => hne (by rw [HZn.out]; exact HNin.out h))
      clear hS
      go_wp2_with fail
      go_ret2
      exact ⟨HB5.out, .inr (.inl ⟨HV.out, HNz.out, rfl⟩)⟩
  · have hv : validL z = false := by simpa using hv
    rw [hv]
    have HV := Lib.hid hv
    clear hv
    go_wp2_with fail
    go_ret2
    exact ⟨HB2.out, .inl ⟨HV.out, rfl⟩⟩
end Go.Proofs.Ytjnjhfificpbbaa
