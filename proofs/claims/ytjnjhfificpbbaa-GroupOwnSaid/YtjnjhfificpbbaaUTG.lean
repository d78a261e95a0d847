/- unpackAll. | trivial. | generate. | (*closed).derive. | Plain mathematics: the derived group as the group of all commutators; chains of derived groups. -/
import Derived.Test.YtjnjhfificpbbaaCLX
namespace Go.Proofs.Ytjnjhfificpbbaa
open Go Go.RowKit

theorem infoPerm : (Try.prog.info? 32).map (fun i => (i.zero, i.size, i.bytes)) = some (some (.slice none 0 0), 1, 24) := by kernel_rfl
/-- v is a slice of the call's own, from block B on, of slices of the call's own that read as the lists ps. -/
def Owp (B : Nat) (w : World) (v : Value) (ps : List (List Int)) : Prop :=
  ∃ vs : List Value, vs.length = ps.length ∧ w.ownsRow B 32 1 v ps.length vs ∧ ∀ i, i < ps.length → Ow B w (vs.getD i undef) (ps.getD i [])

theorem getD_set_list {α : Type} (l : List α) (k i : Nat) (x d : α) (hk : k < l.length) : (l.set k x).getD i d = if i = k then x else l.getD i d := by
  simp only [List.getD_eq_getElem?_getD, List.getElem?_set]
  by_cases e : k = i
  · subst e; simp [hk]
  · rw [if_neg e, if_neg (fun h => e h.symm)]

set_option maxRecDepth 100000 in
set_option maxHeartbeats 2000000 in
theorem unpackAll_any (B : Nat) (v : Value) (L : List (List Int)) (n : Nat) (w : World) (h : Oel B w v L) (hE : ∀ x ∈ L, E7 x) (hn : n ≤ 7) (hl : L.length ≤ 900000) :
    Calls Try.prog 63 #[v, .int .i64 n] w fun r w' => ∃ x, r = .returned x ∧ Owp w.heap.size w' x (L.map (List.take n)) ∧ Below w.heap.size w w' := by
  obtain ⟨a, cap, rfl⟩ := h.slice
  obtain ⟨i0, hi, hz0, hz1, hz2⟩ := info_parts infoPerm
  have HL := Lib.hid h
  have HE := Lib.hid hE
  clear h hE
  go_enter Try.func63, Try.ntmps63
  go_wp2_with (at_make; refine wpList_make_full _ rfl _ _ 22 rfl w.heap.size 32 i0 (.slice none 0 0) 1 Try.underlying22 hi hz0 hz1 _ _ _ _ L.length rfl rfl rfl rfl (by rw [hz2]; omega) (by unfold maxLen; omega) (Nat.le_refl _) ?_; intro w1 hown hgrow)
  clear i0 hi hz0 hz1 hz2
  have hlen := hown.1
  have HB := Lib.hid (blk_of_owns hown)
  have hb := Below.of_grown hgrow
  have HBe := Lib.hid hb
  clear hown hgrow hb
  generalize (madeCells (Value.slice none 0 0).cells (L.length * 1)).toList = vs0 at *
  have HV := Lib.hid (show vs0.length = L.length from by omega)
  have HO := Lib.hid (show ∀ i, i < 0 → Ow (w.heap.size + 1) w1 (vs0.getD i undef) ((L.getD i []).take n) from fun i hi => by omega)
  clear hlen
  go_wp2
  go_loopw [13] (fun i wr => ∃ (k : Nat) (vs : List Value), i = .int .i64 k ∧ k ≤ L.length ∧ Hid (vs.length = L.length) ∧ Hid (Blk wr w.heap.size 32 vs.toArray) ∧ Hid (Below w.heap.size w wr) ∧ Hid (∀ i, i < k → Ow (w.heap.size + 1) wr (vs.getD i undef) ((L.getD i []).take n))) (fun i _ => L.length - (intOf i).toNat)
  case atStart => exact ⟨0, vs0, rfl, Nat.zero_le _, HV, HB, HBe, HO⟩
  case round =>
    clear HV HB HBe HO
    obtain ⟨k, vs, rfl, hk, HV, HB, HBe, HO⟩ := hrel
    by_cases hlt : k < L.length
    · obtain ⟨g, cap', hg⟩ := HL.out.form (by omega)
      cases hg
      have hrl := HL.out.turns (priv := fun b => w.heap.size ≤ b) (w' := wr) ⟨HBe.out.os, HBe.out.tape, HBe.out.output, HBe.out.size, fun k hk hn => HBe.out.block k hk⟩ (fun b hb hq => by have := (World.ownsRow.lt HL.out b hb).2; omega)
      have hr := hrl.range (fun x hx => (HE.out x hx).1) k hlt
      obtain ⟨e, he⟩ : ∃ e, e = L.getD k [] := ⟨_, rfl⟩
      have hEe : E7 e := by rw [he]; exact HE.out _ (getD_mem hlt)
      rw [← he] at hr
      have HR := Lib.hid hr
      have HEE := Lib.hid he
      have hi7 : (Try.prog.info? 78).map (·.size) = some (e.map (Value.int .u8)).length := by rw [List.length_map, hEe.1]; exact infoElem
      have HQ0 := Lib.hid (Blk.new wr 78 #[.int .u8 0, .int .u8 0, .int .u8 0, .int .u8 0, .int .u8 0, .int .u8 0, .int .u8 0])
      have HQ := Lib.hid (Blk.setRow HQ0.out (u8s e))
      have HBQ := Lib.hid (below_row ((Below.refl wr.heap.size wr).alloc (Nat.le_refl _) (.cells #[.int .u8 0, .int .u8 0, .int .u8 0, .int .u8 0, .int .u8 0, .int .u8 0, .int .u8 0] 78)) wr.heap.size (u8s e) (Nat.le_refl _))
      clear hrl hr he
      go_wp2_with (first | (refine wpList_load_mid rfl 78 _ rfl g (k * 7) rfl (e.map (Value.int .u8)) _ HR.out Try.underlying78 rfl hi7 ?_) | (refine wpList_store_row rfl 78 _ _ rfl wr.heap.size (u8s e) rfl rfl 78 #[.int .u8 0, .int .u8 0, .int .u8 0, .int .u8 0, .int .u8 0, .int .u8 0, .int .u8 0] HQ0.out (infoElem' hEe.1) (by rw [size_u8s, hEe.1]; rfl) (u8s_one e) ?_) | (refine wpList_load_row rfl 78 _ rfl wr.heap.size rfl 78 (u8s e) (0, 0) _ HQ.out Try.underlying78 rfl (infoElem' hEe.1) ?_))
      refine (unpack_any e n _ hEe hn).mono ?_
      rintro r w2 ⟨x, rfl, ho, hb2⟩
      have hw2 : Below wr.heap.size wr w2 := HBQ.out.trans (hb2.mono HBQ.out.size)
      have hzB := HBe.out.size
      have hzr := HB.out.lt
      have hoB : Ow (w.heap.size + 1) w2 x (e.take n) := ho.mono (by rw [size_setRow, World.size_alloc]; omega)
      obtain ⟨xa, xc, hx, _⟩ := ho.sl
      obtain ⟨ln, hln⟩ : ∃ ln, ln = (e.take n).length := ⟨_, rfl⟩
      rw [← hln] at hx
      subst hx
      clear hln
      have hkv : k < vs.length := by rw [HV.out]; exact hlt
      have hB2 := HB.out.below hw2
      have hset := hB2.set k (.slice xa ln xc)
      rw [List.setIfInBounds_toArray] at hset
      have hcur : ∃ u, w2.cell? ⟨w.heap.size, k, none⟩ = some u := ⟨vs[k], by rw [hB2.cell k]; simp [hkv]⟩
      obtain ⟨u, hcur⟩ := hcur
      have hf := hB2.free k
      have hT : Turns (fun b => b = w.heap.size) w2 (w2.setCell ⟨w.heap.size, k, none⟩ (.slice xa ln xc)) := (Turns.refl _ _).setCell _ _ _ rfl
      have hlo : ∀ {v : Value} {zs : List Int}, Ow (w.heap.size + 1) w2 v zs → Ow (w.heap.size + 1) (w2.setCell ⟨w.heap.size, k, none⟩ (.slice xa ln xc)) v zs := fun {v zs} h => h.turns hT (fun b hb hq => by have := (World.ownsRow.lt h b hb).1; omega)
      have HB3 := Lib.hid hset
      have HV3 := Lib.hid (show (vs.set k (.slice xa ln xc)).length = L.length from by rw [List.length_set]; exact HV.out)
      have HBe3 := Lib.hid ((HBe.out.trans (hw2.mono HBe.out.size)).setCell (p := ⟨w.heap.size, k, none⟩) (Nat.le_refl _) (.slice xa ln xc))
      have HO3 := Lib.hid (show ∀ i, i < k + 1 → Ow (w.heap.size + 1) (w2.setCell ⟨w.heap.size, k, none⟩ (.slice xa ln xc)) ((vs.set k (.slice xa ln xc)).getD i undef) ((L.getD i []).take n) from fun i hi => by
        rw [getD_set_list vs k i _ _ (by rw [HV.out]; exact hlt)]
        by_cases e1 : i = k
        · rw [if_pos e1, e1, ← HEE.out]; exact hlo hoB
        · rw [if_neg e1]; exact hlo ((HO.out i (by omega)).below hw2))
      clear hset hT hlo hoB ho hkv hB2 hw2 hb2 HB HV HBe HO HR HEE HQ0 HQ HBQ hi7 hEe hzB hzr
      go_wp2
      go_roundw
      case rel => exact ⟨k + 1, _, by go_num, by omega, HV3, HB3, HBe3, HO3⟩
      case measure => simp [intOf]; omega
    · have hke : k = L.length := by omega
      have hlt' : L.length ≤ k := by omega
      have HF := Lib.hid (show Owp w.heap.size wr (.slice (some ⟨w.heap.size, 0, none⟩) L.length L.length) (L.map (List.take n)) from by
        refine ⟨vs, by rw [List.length_map]; exact HV.out, ?_, fun i hi => ?_⟩
        · rw [List.length_map]
          exact ⟨by rw [HV.out, Nat.mul_one], .inr ⟨w.heap.size, L.length, vs.toArray, rfl, Nat.le_refl _, HB.out, Nat.le_refl _, by unfold maxLen; omega, by simp [HV.out], by simpa using List.take_of_length_le (show vs.length ≤ L.length from by rw [HV.out]; exact Nat.le_refl _)⟩⟩
        · rw [List.length_map] at hi
          have := (HO.out i (by omega)).mono (B' := w.heap.size) (by omega)
          rwa [show (L.map (List.take n)).getD i [] = (L.getD i []).take n by simp [hi]])
      clear hke HV HB HO
      go_wp2
      go_ret
      exact ⟨_, rfl, HF.out, HBe.out⟩
end Go.Proofs.Ytjnjhfificpbbaa
namespace Go.Proofs.Ytjnjhfificpbbaa
open Go Go.RowKit

/-- the entry of a map literal, for the walk -/
theorem wpList_ins_set {ops : Array Oper} {rest : List Oper} {o : Oper} {a : Act} {w : World} {Q : Exit → Act → World → Prop} (hg : o.guard = none) (m x v : Operand) (hop : o.op = Op.insert 73 m x v)
    (b : Nat) (L : List (List Int)) (hm : a.eval m = .map (some b)) (h : MapS w b L) (hn : L.length < maxLen) (l : List Int) (hx : a.eval x = .agg (u8s l)) (hv : a.eval v = .bool true) (hl : E7 l)
    (hK : ∀ w', MapS w' b (l :: L) → w.grownBy w' (some b) → wpList Try.prog ops Q rest (a.put o.dst undef) w') : wpList Try.prog ops Q (o :: rest) a w := by
  refine wpList_plain hg fun K' hK' => ?_
  obtain ⟨w', hrun, h1, h2⟩ := h.set hl hn
  unfold Oper.wp
  simp [execOp, hop, hm, hx, hv, hrun, Result.andThen]
  exact hK' _ _ (hK w' h1 h2)

theorem wpList_make_set {ops : Array Oper} {rest : List Oper} {o : Oper} {a : Act} {w : World} {Q : Exit → Act → World → Prop} (hg : o.guard = none) (hop : o.op = Op.makeMap 73 none)
    (hK : wpList Try.prog ops Q rest (a.put o.dst (.map (some w.heap.size))) (w.alloc (.map #[] 0))) : wpList Try.prog ops Q (o :: rest) a w := by
  refine wpList_plain hg fun K' hK' => ?_
  have e : (Instr.makeMap 73 none).run Try.prog w = .ok (.map (some w.heap.size)) (w.alloc (.map #[] 0)) := rfl
  unfold Oper.wp
  simp [execOp, hop, e, Result.andThen]
  exact hK' _ _ hK

set_option maxRecDepth 100000 in
set_option maxHeartbeats 1000000 in
theorem trivial_any (n : Int) (w : World) : Calls Try.prog 76 #[.int .i64 n] w fun r w' => ∃ c m vl, r = .returned (.pointer (some ⟨c, 0, none⟩)) ∧ Clo w.heap.size w' c m n (.slice none 0 0) vl [] [idL 7] ∧ Below w.heap.size w w' ∧ w.heap.size ≤ c ∧ w.heap.size ≤ m ∧ (∀ b, vl.ownBlock = some b → w.heap.size ≤ b) := by
  go_enter Try.func76, Try.ntmps76
  go_wp2_with fail
  refine (neutral_any _).mono ?_
  rintro r w1 ⟨rfl, hb1⟩
  have HB1 := Lib.hid hb1
  clear hb1
  have hid7 := length_idL 7
  have h1 := Blk.new w1 78 (u8s (idL 7))
  have hO1 : Oel w.heap.size (w1.alloc (.cells (u8s (idL 7)) 78)) (.slice (some ⟨w1.heap.size, 0, none⟩) 1 1) [idL 7] :=
    ⟨by rfl, .inr ⟨w1.heap.size, 1, _, rfl, HB1.out.size, h1, Nat.le_refl _, by unfold maxLen; omega, by rfl, by rfl⟩⟩
  have HO1 := Lib.hid hO1
  have HM1 := Lib.hid (MapS.new (w1.alloc (.cells (u8s (idL 7)) 78)))
  clear h1 hO1
  go_wp2_with (first | (refine wpList_plain rfl fun K hK => wp_build_el _ rfl (idL 7) (length_idL 7) rfl (hK _ _ ?_)) | (refine wpList_make_set rfl rfl ?_))
  refine (neutral_any _).mono ?_
  rintro r w2 ⟨rfl, hb2⟩
  have HB2 := Lib.hid hb2
  clear hb2
  rw [World.size_alloc] at HM1
  go_wp2_with (refine wpList_ins_set rfl _ _ _ rfl (w1.heap.size + 1) [] rfl (HM1.out.below HB2.out) (by unfold maxLen; decide) (idL 7) rfl rfl El.one.e7 ?_; intro w3 hm3 hg3; have HM3 := Lib.hid hm3; have HG3 := Lib.hid hg3; clear hm3 hg3)
  go_ret
  have hbA : Below w.heap.size w ((w1.alloc (.cells (u8s (idL 7)) 78)).alloc (.map #[] 0)) := (HB1.out.alloc HB1.out.size _).alloc (by have := HB1.out.size; rw [World.size_alloc]; omega) _
  have hbB : Below w.heap.size w w2 := hbA.trans (HB2.out.mono hbA.size)
  have zA : w1.heap.size + 1 + 1 ≤ w2.heap.size := by have := HB2.out.size; rw [World.size_alloc, World.size_alloc] at this; exact this
  have z1 := HB1.out.size
  have z3 := HG3.out.size
  have hbC : Below w.heap.size w w3 := ⟨HG3.out.os.trans hbB.os, HG3.out.tape.trans hbB.tape, HG3.out.output.trans hbB.output, by have := hbB.size; omega, fun k hk => (HG3.out.block k (by have := hbB.size; omega) (fun h => by have := Option.some.inj h; omega)).trans (hbB.block k hk)⟩
  have hO2 : Oel w.heap.size w2 (.slice (some ⟨w1.heap.size, 0, none⟩) 1 1) [idL 7] := (Oel.turns (priv := fun _ => False) (World.ownsRow.alloc HO1.out (.map #[] 0)) (Turns.of_below HB2.out) (fun _ _ => id))
  have hO3 : Oel w.heap.size w3 (.slice (some ⟨w1.heap.size, 0, none⟩) 1 1) [idL 7] := World.ownsRow.kept hO2 HG3.out (.inr (fun h => by have := Option.some.inj h; simp at this))
  refine ⟨w3.heap.size, w1.heap.size + 1, _, rfl, ⟨Blk.new w3 _ _, ⟨[idL 7], HM3.out.below ((Below.refl _ w3).alloc (Nat.le_refl _) _), rfl, fun x => Iff.rfl⟩, World.ownsRow_nil _ _ _ _, World.ownsRow.alloc hO3 _, by omega, by simp [Value.ownBlock], by simp [Value.ownBlock], ?_, ?_, .inl rfl, by have := hbC.size; rw [World.size_alloc]; omega⟩, hbC.alloc hbC.size _, hbC.size, by omega, ?_⟩
  · simp [Value.ownBlock]; omega
  · simp [Value.ownBlock]
  · intro b hb
    simp [Value.ownBlock] at hb
    omega
end Go.Proofs.Ytjnjhfificpbbaa
namespace Go.Proofs.Ytjnjhfificpbbaa
open Go Go.RowKit

/-- v is a slice of permutations that reads as the lists ps. -/
def Sps (w : World) (v : Value) (ps : List (List Int)) : Prop :=
  ∃ (a : Option Addr) (cap : Nat), v = .slice a ps.length cap ∧
    (ps = [] ∨ ∃ b off, a = some ⟨b, off, none⟩ ∧ ∀ i, i < ps.length → ∃ x, w.cell? ⟨b, off + i, none⟩ = some x ∧ Sl w x (ps.getD i []))
theorem Sps.below {w w' : World} {v : Value} {ps : List (List Int)} (h : Sps w v ps) (hb : Below w.heap.size w w') : Sps w' v ps := by
  obtain ⟨a, cap, rfl, h⟩ := h
  refine ⟨a, cap, rfl, ?_⟩
  rcases h with h | ⟨b, off, rfl, h⟩
  · exact .inl h
  · refine .inr ⟨b, off, rfl, fun i hi => ?_⟩
    obtain ⟨x, h1, h2⟩ := h i hi
    exact ⟨x, (hb.cell (p := ⟨b, off + i, none⟩) (World.block_lt_of_cell? w _ h1)).trans h1, h2.below hb⟩
/-- the elements of some permutations -/
def pks (ps : List (List Int)) : List (List Int) := ps.map pk7
theorem pks_snoc {ps : List (List Int)} {k : Nat} (hk : k < ps.length) : pks (ps.take (k + 1)) = pks (ps.take k) ++ [pk7 (ps.getD k [])] := by
  unfold pks
  rw [List.take_succ_eq_append_getElem hk, List.map_append]
  simp [hk]
theorem pks_els {ps : List (List Int)} (h : ∀ p ∈ ps, validL p = true) (k : Nat) : Els (pks (ps.take k)) := fun x hx => by
  obtain ⟨p, hp, rfl⟩ := List.mem_map.1 hx
  exact pk7_el (h p (List.mem_of_mem_take hp))

/-- a group that lies from block B on -/
structure Own (B : Nat) (w : World) (c m : Nat) (n : Int) (vg vl : Value) (G L : List (List Int)) : Prop where
  clo : Clo B w c m n vg vl G L
  grp : Grp G L
  oc : B ≤ c
  om : B ≤ m
  og : ∀ b, vg.ownBlock = some b → B ≤ b
  ol : ∀ b, vl.ownBlock = some b → B ≤ b

theorem grp_one : Grp [] [idL 7] := ⟨by simp, by simp, by simp, fun x hx => by rw [List.mem_singleton.1 hx]; exact El.one, by simp, by simp, fun a ha => by rw [List.mem_singleton.1 ha]; exact .one⟩

/-- extend, on a group of the call's own -/
theorem extend_own {B c m : Nat} {n : Int} {vg vl : Value} {G L : List (List Int)} {e : List Int} {w0 w : World} (h : Own B w c m n vg vl G L) (hb : Below B w0 w) (he : El e) :
    Calls Try.prog 77 #[.pointer (some ⟨c, 0, none⟩), .agg (u8s e)] w fun r w' => r = .returned (.tuple #[]) ∧ ∃ vg' vl' G' L', Own B w' c m n vg' vl' G' L' ∧ G' = (if e ∈ L then G else G ++ [e]) ∧ (e ∈ L → L' = L) ∧ (∀ a, Gen G' a ↔ Gen (G ++ [e]) a) ∧ Below B w0 w' ∧
      Turns (fun b => b = c ∨ b = m ∨ some b = vg.ownBlock ∨ some b = vl.ownBlock) w w' ∧ (vg'.ownBlock = vg.ownBlock ∨ ∃ g, vg'.ownBlock = some g ∧ w.heap.size ≤ g) ∧ (vl'.ownBlock = vl.ownBlock ∨ ∃ g, vl'.ownBlock = some g ∧ w.heap.size ≤ g) := by
  refine (extend_any h.clo h.grp he).mono ?_
  rintro r w' ⟨rfl, vg', vl', G', L', h1, h2, h3, h4, h5, h6, h7⟩
  have hz := h.clo.base
  refine ⟨rfl, vg', vl', G', L', ⟨h1, h2, h.oc, h.om, fun b hb' => ?_, fun b hb' => ?_⟩, h3, h4, fun a => ?_, ⟨h5.os.trans hb.os, h5.tape.trans hb.tape, h5.output.trans hb.output, Nat.le_trans hb.size h5.size, fun k hk => (h5.block k (by omega) (fun hq => ?_)).trans (hb.block k hk)⟩, h5, h6, h7⟩
  · rcases h6 with e1 | ⟨g, e1, hg⟩
    · exact h.og b (by rw [← e1, hb'])
    · rw [e1] at hb'; have := Option.some.inj hb'; omega
  · rcases h7 with e1 | ⟨g, e1, hg⟩
    · exact h.ol b (by rw [← e1, hb'])
    · rw [e1] at hb'; have := Option.some.inj hb'; omega
  · rw [h3]
    split
    · rename_i hin
      exact (Gen.skip h.grp.gels (h.grp.gen e hin)).symm
    · exact Iff.rfl
  · rcases hq with e1 | e1 | e1 | e1
    · have := h.oc; omega
    · have := h.om; omega
    · have := h.og k e1.symm; omega
    · have := h.ol k e1.symm; omega

theorem Own.below {B c m : Nat} {n : Int} {vg vl : Value} {G L : List (List Int)} {w w' : World} (h : Own B w c m n vg vl G L) (hb : Below w.heap.size w w') : Own B w' c m n vg vl G L := { h with clo := h.clo.below hb }

theorem gen_congr {gs hs : List (List Int)} {e : List Int} (hg : Els gs) (hh : Els hs) (he : El e) (h : ∀ a, Gen gs a ↔ Gen hs a) (a : List Int) : Gen (gs ++ [e]) a ↔ Gen (hs ++ [e]) a := by
  have aux : ∀ {gs hs : List (List Int)}, Els gs → Els hs → (∀ a, Gen gs a ↔ Gen hs a) → Gen (gs ++ [e]) a → Gen (hs ++ [e]) a := fun {gs hs} hg hh h => Gen.sub (Els.snoc he hh) (fun x hx => by
    rcases List.mem_append.1 hx with e1 | e1
    · exact Gen.more (Els.snoc he hh) ((h x).1 (Gen.of_mem hg e1))
    · exact Gen.of_mem (Els.snoc he hh) (List.mem_append.2 (.inr e1)))
  exact ⟨aux hg hh h, aux hh hg (fun a => (h a).symm)⟩

set_option maxRecDepth 100000 in
set_option maxHeartbeats 1000000 in
theorem generate_any (v : Value) (ps : List (List Int)) (w : World) (h : Sps w v ps) (h1 : 0 < ps.length) (hv : ∀ p ∈ ps, validL p = true) (hn : ps.length ≤ 1000000) :
    Calls Try.prog 51 #[v] w fun r w' => ∃ c m vg vl G L, r = .returned (.pointer (some ⟨c, 0, none⟩)) ∧ Own w.heap.size w' c m (ps.getD 0 []).length vg vl G L ∧ (∀ a, a ∈ L ↔ Gen (pks ps) a) ∧ Below w.heap.size w w' := by
  have H0 := Lib.hid h
  obtain ⟨a, cap, rfl, h⟩ := h
  rcases h with h | ⟨b, off, rfl, h⟩
  · rw [h] at h1; cases h1
  have HC := Lib.hid h
  obtain ⟨x0, g0, s0⟩ := h 0 h1
  obtain ⟨xa, xc, rfl, _⟩ := s0
  rw [Nat.add_zero] at g0
  have HV := Lib.hid hv
  clear h hv
  obtain ⟨n0, hn0⟩ : ∃ n0, n0 = (ps.getD 0 []).length := ⟨_, rfl⟩
  rw [← hn0] at g0 ⊢
  have HN0 := Lib.hid hn0
  clear hn0
  go_enter Try.func51, Try.ntmps51
  go_wp2_with fail
  refine (trivial_any _ _).mono ?_
  rintro r w1 ⟨c, m, vl, rfl, cl, hb1, oc, om, ol⟩
  have HO := Lib.hid (show Own w.heap.size w1 c m n0 (.slice none 0 0) vl [] [idL 7] from ⟨cl, grp_one, oc, om, fun b hb => (by simp [Value.ownBlock] at hb), ol⟩)
  have HB := Lib.hid hb1
  have HGen := Lib.hid (show ∀ x, Gen [] x ↔ Gen (pks (ps.take 0)) x from fun x => Iff.rfl)
  clear cl hb1 oc om ol
  go_wp2
  go_loopw [13] (fun i wr => ∃ (k : Nat) (vg vl : Value) (G L : List (List Int)), i = .int .i64 k ∧ k ≤ ps.length ∧ Hid (Own w.heap.size wr c m n0 vg vl G L) ∧ Hid (Below w.heap.size w wr) ∧ Hid (∀ x, Gen G x ↔ Gen (pks (ps.take k)) x)) (fun i _ => ps.length - (intOf i).toNat)
  case atStart => exact ⟨0, _, vl, [], [idL 7], rfl, Nat.zero_le _, HO, HB, HGen⟩
  case round =>
    clear HO HB HGen
    obtain ⟨k, vg, vl, G, L, rfl, hk, HO, HB, HGen⟩ := hrel
    by_cases hlt : k < ps.length
    · obtain ⟨x, g1, s1⟩ := HC.out k hlt
      have hbb : b < w.heap.size := World.block_lt_of_cell? w _ g1
      have g2 : wr.cell? ⟨b, off + k, none⟩ = some x := (HB.out.cell (p := ⟨b, off + k, none⟩) hbb).trans g1
      have s2 := s1.below HB.out
      obtain ⟨q, hq⟩ : ∃ q, q = ps.getD k [] := ⟨_, rfl⟩
      have hvq : validL q = true := by rw [hq]; exact HV.out _ (getD_mem hlt)
      rw [← hq] at s2
      have HS := Lib.hid s2
      have HQ := Lib.hid hq
      obtain ⟨ya, yc, rfl, _⟩ := s2
      clear g1 s1 hq
      go_wp2_with (go_at_call 67; refine (pack_any _ q _ HS.out hvq).mono ?_; rintro r w2 ⟨rfl, hb2⟩; have HB2 := Lib.hid hb2; clear hb2)
      refine (extend_own (HO.out.below HB2.out) (HB.out.trans (HB2.out.mono HB.out.size)) (pk7_el hvq)).mono ?_
      rintro r w3 ⟨rfl, vg', vl', G', L', o3, e1, e2, e3, b3, _⟩
      have HO3 := Lib.hid o3
      have HB3 := Lib.hid b3
      have HG3 := Lib.hid (show ∀ x, Gen G' x ↔ Gen (pks (ps.take (k + 1))) x from fun x => by
        rw [pks_snoc hlt, ← HQ.out]
        exact (e3 x).trans (gen_congr HO.out.grp.gels (pks_els HV.out k) (pk7_el hvq) HGen.out x))
      clear o3 b3 e1 e2 e3 HO HB HGen HS HB2 g2
      go_wp2
      go_roundw
      case rel => exact ⟨k + 1, vg', vl', G', L', by go_num, by omega, HO3, HB3, HG3⟩
      case measure => simp [intOf]; omega
    · have hke : k = ps.length := by omega
      have HE := Lib.hid (show ∀ a, a ∈ L ↔ Gen (pks ps) a from fun x => by
        have := HGen.out x
        rw [hke, List.take_of_length_le (Nat.le_refl _)] at this
        exact (gen_list HO.out.grp.one (fun a g ha hg => HO.out.grp.cls a ha g hg) HO.out.grp.gen).trans this)
      have hlt' : ps.length ≤ k := by omega
      clear hke HGen
      go_wp2
      go_ret
      exact ⟨c, m, vg, vl, G, L, rfl, HO.out, HE.out, HB.out⟩
end Go.Proofs.Ytjnjhfificpbbaa
namespace Go.Proofs.Ytjnjhfificpbbaa
open Go Go.RowKit

/-- d is a product of commutators of the group that G generates -/
def Der (G : List (List Int)) (d : List Int) : Prop := ∀ cs, (∀ x, x ∈ cs ↔ ∃ a b, Gen G a ∧ Gen G b ∧ x = commG a b) → Gen cs d
theorem der_comm {G : List (List Int)} {a b : List Int} (hG : Els G) (ha : Gen G a) (hb : Gen G b) : Der G (commG a b) := fun cs hc =>
  Gen.of_mem (fun x hx => by obtain ⟨u, v, hu, hv, rfl⟩ := (hc x).1 hx; exact (hu.el hG).comm (hv.el hG)) ((hc _).2 ⟨a, b, ha, hb, rfl⟩)
theorem der_conj' {G : List (List Int)} {d g : List Int} (hG : Els G) (hd : Der G d) (hg : Gen G g) : Der G (conjL d g) := fun cs hc => der_conj hG hc (hd cs hc) hg

/-- what the first two loops have shown: the commutators of the first i generators with all, and of number i with the first j -/
structure D1 (G D : List (List Int)) (i j : Nat) : Prop where
  rows : ∀ s, s < i → ∀ t, t < G.length → Gen D (commG (G.getD s []) (G.getD t []))
  row : ∀ t, t < j → Gen D (commG (G.getD i []) (G.getD t []))
  der : ∀ d ∈ D, Der G d
theorem D1.grow {G D D' : List (List Int)} {i j : Nat} (h : D1 G D i j) (hs : ∀ x, Gen D x → Gen D' x) (hd : ∀ d ∈ D', Der G d) : D1 G D' i j := ⟨fun s hs' t ht => hs _ (h.rows s hs' t ht), fun t ht => hs _ (h.row t ht), hd⟩
/-- what the last loop has shown -/
structure D2 (G D : List (List Int)) (k j : Nat) : Prop where
  comm : ∀ a ∈ G, ∀ b ∈ G, Gen D (commG a b)
  rows : ∀ s, s < k → ∀ g ∈ G, Gen D (conjL (D.getD s []) g)
  row : ∀ t, t < j → Gen D (conjL (D.getD k []) (G.getD t []))
  der : ∀ d ∈ D, Der G d

/-- one more generator, or none -/
theorem ext_mem {D D' L : List (List Int)} {e x : List Int} (h : D' = if e ∈ L then D else D ++ [e]) (hx : x ∈ D') : x ∈ D ∨ x = e := by
  rw [h] at hx
  split at hx
  · exact .inl hx
  · rcases List.mem_append.1 hx with h | h
    · exact .inl h
    · exact .inr (List.mem_singleton.1 h)
theorem ext_getD {D D' L : List (List Int)} {e : List Int} (h : D' = if e ∈ L then D else D ++ [e]) {i : Nat} (hi : i < D.length) : D'.getD i [] = D.getD i [] ∧ i < D'.length := by
  rw [h]
  split
  · exact ⟨rfl, hi⟩
  · refine ⟨?_, by rw [List.length_append]; omega⟩
    rw [List.getD_eq_getElem?_getD, List.getElem?_append_left hi, ← List.getD_eq_getElem?_getD]
theorem gen_up {D D' : List (List Int)} {e : List Int} (hD : Els D) (he : El e) (h : ∀ a, Gen D' a ↔ Gen (D ++ [e]) a) : (∀ x, Gen D x → Gen D' x) ∧ Gen D' e :=
  ⟨fun x hx => (h x).2 (Gen.more (Els.snoc he hD) hx), (h e).2 (Gen.of_mem (Els.snoc he hD) (by simp))⟩
theorem mem_getD {G : List (List Int)} {a : List Int} (h : a ∈ G) : ∃ s, s < G.length ∧ G.getD s [] = a := by
  obtain ⟨i, hi, e⟩ := List.getElem_of_mem h
  exact ⟨i, hi, by rw [List.getD_eq_getElem?_getD, List.getElem?_eq_getElem hi, e]; rfl⟩

/-- block q is none of the group's -/
def Off (q c m : Nat) (vg vl : Value) : Prop := q ≠ c ∧ q ≠ m ∧ some q ≠ vg.ownBlock ∧ some q ≠ vl.ownBlock
theorem Off.of_size {B c m : Nat} {n : Int} {vg vl : Value} {G L : List (List Int)} {w : World} (h : Own B w c m n vg vl G L) : Off w.heap.size c m vg vl :=
  ⟨fun e => by have := h.clo.cells.lt; omega, fun e => by have := h.clo.set.lt; omega, fun e => by have := (World.ownsRow.lt h.clo.rg _ e.symm).2; omega, fun e => by have := (World.ownsRow.lt h.clo.rl _ e.symm).2; omega⟩
theorem Off.next {q c m : Nat} {vg vl vg' vl' : Value} {w : World} (h : Off q c m vg vl) (hq : q < w.heap.size) (h1 : vg'.ownBlock = vg.ownBlock ∨ ∃ g, vg'.ownBlock = some g ∧ w.heap.size ≤ g) (h2 : vl'.ownBlock = vl.ownBlock ∨ ∃ g, vl'.ownBlock = some g ∧ w.heap.size ≤ g) : Off q c m vg' vl' := by
  refine ⟨h.1, h.2.1, fun e => ?_, fun e => ?_⟩
  · rcases h1 with e1 | ⟨g, e1, hg⟩
    · exact h.2.2.1 (by rw [e, e1])
    · rw [e1] at e; have := Option.some.inj e; omega
  · rcases h2 with e1 | ⟨g, e1, hg⟩
    · exact h.2.2.2 (by rw [e, e1])
    · rw [e1] at e; have := Option.some.inj e; omega
theorem Off.not {q c m : Nat} {vg vl : Value} (h : Off q c m vg vl) : ¬ (q = c ∨ q = m ∨ some q = vg.ownBlock ∨ some q = vl.ownBlock) := fun hq => by
  rcases hq with e | e | e | e
  · exact h.1 e
  · exact h.2.1 e
  · exact h.2.2.1 e
  · exact h.2.2.2 e

set_option maxRecDepth 100000 in
set_option maxHeartbeats 2000000 in
theorem derive_any {B c m : Nat} {n : Int} {vg vl : Value} {G L : List (List Int)} {w : World} (h : Clo B w c m n vg vl G L) (g : Grp G L) :
    Calls Try.prog 58 #[.pointer (some ⟨c, 0, none⟩)] w fun r w' => ∃ c' m' vg' vl' D K, r = .returned (.pointer (some ⟨c', 0, none⟩)) ∧ Own w.heap.size w' c' m' n vg' vl' D K ∧ D2 G D D.length 0 ∧ Below w.heap.size w w' := by
  have HC := Lib.hid h
  have HG := Lib.hid g
  obtain ⟨ag, cg, rfl⟩ := h.rg.slice
  have h0 := h.cells.cell 0
  have h1 := h.cells.cell 1
  have hgl := g.glen
  clear h g
  go_enter Try.func58, Try.ntmps58
  go_wp2_with fail
  refine (trivial_any _ _).mono ?_
  rintro r w1 ⟨c', m', vl', rfl, cl, hb1, oc, om, ol⟩
  have HO := Lib.hid (show Own w.heap.size w1 c' m' n (.slice none 0 0) vl' [] [idL 7] from ⟨cl, grp_one, oc, om, fun b hb => (by simp [Value.ownBlock] at hb), ol⟩)
  have HB := Lib.hid hb1
  have HD := Lib.hid (show D1 G [] 0 0 from ⟨fun s hs => by omega, fun t ht => by omega, fun d hd => by cases hd⟩)
  have h2 := (HC.out.cells.below hb1).cell 1
  clear cl hb1 oc om ol h0 h1
  go_wp2
  go_loopw [22] (fun i wr => ∃ (k : Nat) (vd vk : Value) (D K : List (List Int)), i = .int .i64 k ∧ k ≤ G.length ∧ Hid (Own w.heap.size wr c' m' n vd vk D K) ∧ Hid (Below w.heap.size w wr) ∧ Hid (D1 G D k 0)) (fun i _ => G.length - (intOf i).toNat)
  case atStart => exact ⟨0, _, vl', [], [idL 7], rfl, Nat.zero_le _, HO, HB, HD⟩
  case round =>
    clear HO HB HD
    obtain ⟨k, vd, vk, D, K, rfl, hk, HO, HB, HD⟩ := hrel
    obtain ⟨wo, hwo⟩ : ∃ W, W = wr := ⟨_, rfl⟩
    subst hwo
    by_cases hlt : k < G.length
    · obtain ⟨gg, cg', hag⟩ := HC.out.rg.form (by omega)
      cases hag
      have hr := (HC.out.below HB.out).rg.range (fun x hx => (HG.out.gels x hx).2) k hlt
      obtain ⟨a, ha⟩ : ∃ a, a = G.getD k [] := ⟨_, rfl⟩
      have hGa : Gen G a := by rw [ha]; exact Gen.of_mem HG.out.gels (getD_mem hlt)
      have hEa : El a := hGa.el HG.out.gels
      rw [← ha] at hr
      have HR := Lib.hid hr
      have HA := Lib.hid ha
      have hi7 : (Try.prog.info? 78).map (·.size) = some (a.map (Value.int .u8)).length := by rw [List.length_map, hEa.2]; exact infoElem
      have HQ0 := Lib.hid (Blk.new wo 78 #[.int .u8 0, .int .u8 0, .int .u8 0, .int .u8 0, .int .u8 0, .int .u8 0, .int .u8 0])
      have HQ := Lib.hid (Blk.setRow HQ0.out (u8s a))
      have HBQ := Lib.hid (below_row ((Below.refl wo.heap.size wo).alloc (Nat.le_refl _) (.cells #[.int .u8 0, .int .u8 0, .int .u8 0, .int .u8 0, .int .u8 0, .int .u8 0, .int .u8 0] 78)) wo.heap.size (u8s a) (Nat.le_refl _))
      have HBX := Lib.hid (HB.out.trans (HBQ.out.mono HB.out.size))
      have h3 := (HC.out.cells.below HBX.out).cell 1
      have HOX := Lib.hid (HO.out.below HBQ.out)
      have HF := Lib.hid (Off.of_size HO.out)
      clear hr ha h2
      go_wp2_with (first | (refine wpList_load_mid rfl 78 _ rfl gg (k * 7) rfl (a.map (Value.int .u8)) _ HR.out Try.underlying78 rfl hi7 ?_) | (refine wpList_store_row rfl 78 _ _ rfl wo.heap.size (u8s a) rfl rfl 78 #[.int .u8 0, .int .u8 0, .int .u8 0, .int .u8 0, .int .u8 0, .int .u8 0, .int .u8 0] HQ0.out (infoElem' hEa.2) (by rw [size_u8s, hEa.2]; rfl) (u8s_one a) ?_))
      clear HR HQ0 HBQ HB HO h3 hi7
      go_loopw [31] (fun i wr => ∃ (j : Nat) (vd vk : Value) (D K : List (List Int)), i = .int .i64 j ∧ j ≤ G.length ∧ Hid (Own w.heap.size wr c' m' n vd vk D K) ∧ Hid (Below w.heap.size w wr) ∧ Hid (D1 G D k j) ∧ Hid (Blk wr wo.heap.size 78 (u8s a)) ∧ Hid (Off wo.heap.size c' m' vd vk)) (fun i _ => G.length - (intOf i).toNat)
      case atStart => exact ⟨0, vd, vk, D, K, rfl, Nat.zero_le _, HOX, HBX, HD, HQ, HF⟩
      case round =>
        clear HOX HBX HD HQ HF
        obtain ⟨j, vd, vk, D, K, rfl, hj, HO, HB, HD, HQ, HF⟩ := hrel
        by_cases hjl : j < G.length
        · have hr := (HC.out.below HB.out).rg.range (fun x hx => (HG.out.gels x hx).2) j hjl
          obtain ⟨b, hb⟩ : ∃ b, b = G.getD j [] := ⟨_, rfl⟩
          have hGb : Gen G b := by rw [hb]; exact Gen.of_mem HG.out.gels (getD_mem hjl)
          have hEb : El b := hGb.el HG.out.gels
          rw [← hb] at hr
          have HR := Lib.hid hr
          have HBB := Lib.hid hb
          have hi8 : (Try.prog.info? 78).map (·.size) = some (b.map (Value.int .u8)).length := by rw [List.length_map, hEb.2]; exact infoElem
          have HR0 := Lib.hid (Blk.new wr 78 #[.int .u8 0, .int .u8 0, .int .u8 0, .int .u8 0, .int .u8 0, .int .u8 0, .int .u8 0])
          have HRX := Lib.hid (Blk.setRow HR0.out (u8s b))
          have HBX := Lib.hid (below_row ((Below.refl wr.heap.size wr).alloc (Nat.le_refl _) (.cells #[.int .u8 0, .int .u8 0, .int .u8 0, .int .u8 0, .int .u8 0, .int .u8 0, .int .u8 0] 78)) wr.heap.size (u8s b) (Nat.le_refl _))
          have HQX := Lib.hid (HQ.out.below HBX.out)
          clear hb hr
          go_wp2_with (first | (refine wpList_load_mid rfl 78 _ rfl gg (j * 7) rfl (b.map (Value.int .u8)) _ HR.out Try.underlying78 rfl hi8 ?_) | (refine wpList_store_row rfl 78 _ _ rfl wr.heap.size (u8s b) rfl rfl 78 #[.int .u8 0, .int .u8 0, .int .u8 0, .int .u8 0, .int .u8 0, .int .u8 0, .int .u8 0] HR0.out (infoElem' hEb.2) (by rw [size_u8s, hEb.2]; rfl) (u8s_one b) ?_) | (refine wpList_load_row rfl 78 _ rfl wo.heap.size rfl 78 (u8s a) (0, 0) _ HQX.out Try.underlying78 rfl (infoElem' hEa.2) ?_) | (refine wpList_load_row rfl 78 _ rfl wr.heap.size rfl 78 (u8s b) (0, 0) _ HRX.out Try.underlying78 rfl (infoElem' hEb.2) ?_) | (go_at_call 81; refine (commutator_el a b _ hEa hEb).mono ?_; rintro r w2 ⟨rfl, hb2⟩; have HB2 := Lib.hid hb2; clear hb2))
          have hw2 : Below wr.heap.size wr w2 := HBX.out.trans (HB2.out.mono HBX.out.size)
          rw [cjTo_eq hEa hEb]
          have hEc : El (commG a b) := hEa.comm hEb
          refine (extend_own (HO.out.below hw2) (HB.out.trans (hw2.mono HB.out.size)) hEc).mono ?_
          rintro r w3 ⟨rfl, vd', vk', D', K', o3, e1, e2, e3, b3, t3, l1, l2⟩
          have HF3 := Lib.hid (HF.out.next (Nat.lt_of_lt_of_le HQ.out.lt hw2.size) l1 l2)
          have hup := gen_up HO.out.grp.gels hEc e3
          have HO3 := Lib.hid o3
          have HB3 := Lib.hid b3
          have HQ3 := Lib.hid (show Blk w3 wo.heap.size 78 (u8s a) from (HQ.out.below hw2).turns t3 HF.out.not)
          have HD3 := Lib.hid (show D1 G D' k (j + 1) from ⟨fun s hs t ht => hup.1 _ (HD.out.rows s hs t ht), fun t ht => by
            by_cases e : t = j
            · rw [e, ← HA.out, ← HBB.out]; exact hup.2
            · exact hup.1 _ (HD.out.row t (by omega)), fun d hd => by
            rcases ext_mem e1 hd with h | h
            · exact HD.out.der d h
            · rw [h]; exact der_comm HG.out.gels hGa hGb⟩)
          clear hw2 o3 b3 t3 e1 e2 e3 l1 l2 hup HF HO HB HD HQ HR HBB hi8 HR0 HRX HBX HQX HB2 hEb hGb hEc
          go_wp2
          go_roundw
          case rel => exact ⟨j + 1, vd', vk', D', K', by go_num, by omega, HO3, HB3, HD3, HQ3, HF3⟩
          case measure => simp [intOf]; omega
        · have hje : j = G.length := by omega
          have HN := Lib.hid (show D1 G D (k + 1) 0 from ⟨fun s hs t ht => by
            by_cases e : s = k
            · rw [e]; exact HD.out.row t (by omega)
            · exact HD.out.rows s (by omega) t ht, fun t ht => by omega, HD.out.der⟩)
          have hjl' : G.length ≤ j := by omega
          clear hje HD HQ
          go_wp2
          refine ⟨⟨k + 1, vd, vk, D, K, by simp, by omega, HO, HB, HN⟩, ?_⟩
          simp [intOf]; omega
    · have hke : k = G.length := by omega
      have HN := Lib.hid (show D2 G D 0 0 from ⟨fun a ha b hb => by
        obtain ⟨s, hs, e1⟩ := mem_getD ha
        obtain ⟨t, ht, e2⟩ := mem_getD hb
        rw [← e1, ← e2]; exact HD.out.rows s (by omega) t ht, fun s hs => by omega, fun t ht => by omega, HD.out.der⟩)
      have hlt' : G.length ≤ k := by omega
      clear hke HD
      go_wp2
      clear h2 hlt' hlt
      go_loopw [8] (fun i wr => ∃ (k : Nat) (vd vk : Value) (D K : List (List Int)), i = .int .i64 k ∧ k ≤ D.length ∧ Hid (Own w.heap.size wr c' m' n vd vk D K) ∧ Hid (Below w.heap.size w wr) ∧ Hid (D2 G D k 0)) (fun i _ => 900000 - (intOf i).toNat)
      case atStart => exact ⟨0, vd, vk, D, K, rfl, Nat.zero_le _, HO, HB, HN⟩
      case round =>
        clear HO HB HN
        obtain ⟨k, vd, vk, D, K, rfl, hk, HO, HB, HD⟩ := hrel
        obtain ⟨wo, hwo⟩ : ∃ W, W = wr := ⟨_, rfl⟩
        subst hwo
        have hdl := HO.out.grp.glen
        obtain ⟨ad, capd, hvd⟩ := HO.out.clo.rg.slice
        have h1 := HO.out.clo.cells.cell 1
        by_cases hlt : k < D.length
        · obtain ⟨gd, capd', hvd'⟩ := HO.out.clo.rg.form (by omega)
          have hrd := HO.out.clo.rg
          rw [hvd'] at h1 hrd
          have hr := hrd.range (fun x hx => (HO.out.grp.gels x hx).2) k hlt
          obtain ⟨a, ha⟩ : ∃ a, a = D.getD k [] := ⟨_, rfl⟩
          have hEa : El a := by rw [ha]; exact HO.out.grp.gels _ (getD_mem hlt)
          have hDa : Der G a := by rw [ha]; exact HD.out.der _ (getD_mem hlt)
          rw [← ha] at hr
          have HR := Lib.hid hr
          have HA := Lib.hid ha
          have hi7 : (Try.prog.info? 78).map (·.size) = some (a.map (Value.int .u8)).length := by rw [List.length_map, hEa.2]; exact infoElem
          have HQ0 := Lib.hid (Blk.new wo 78 #[.int .u8 0, .int .u8 0, .int .u8 0, .int .u8 0, .int .u8 0, .int .u8 0, .int .u8 0])
          have HQ := Lib.hid (Blk.setRow HQ0.out (u8s a))
          have HBQ := Lib.hid (below_row ((Below.refl wo.heap.size wo).alloc (Nat.le_refl _) (.cells #[.int .u8 0, .int .u8 0, .int .u8 0, .int .u8 0, .int .u8 0, .int .u8 0, .int .u8 0] 78)) wo.heap.size (u8s a) (Nat.le_refl _))
          have HBX := Lib.hid (HB.out.trans (HBQ.out.mono HB.out.size))
          have h3 := (HC.out.cells.below HBX.out).cell 1
          have HOX := Lib.hid (HO.out.below HBQ.out)
          have HF := Lib.hid (Off.of_size HO.out)
          have HK := Lib.hid (show k < D.length ∧ D.getD k [] = a from ⟨hlt, HA.out.symm⟩)
          have hvq := Lib.hid hvd'
          clear hr ha hvd hvd' hrd
          go_wp2_with (first | (refine wpList_load_mid rfl 78 _ rfl gd (k * 7) rfl (a.map (Value.int .u8)) _ HR.out Try.underlying78 rfl hi7 ?_) | (refine wpList_store_row rfl 78 _ _ rfl wo.heap.size (u8s a) rfl rfl 78 #[.int .u8 0, .int .u8 0, .int .u8 0, .int .u8 0, .int .u8 0, .int .u8 0, .int .u8 0] HQ0.out (infoElem' hEa.2) (by rw [size_u8s, hEa.2]; rfl) (u8s_one a) ?_))
          clear HR HQ0 HBQ HB HO h3 hi7 h1 hvq HA
          go_loopw [63] (fun i wr => ∃ (j : Nat) (vd vk : Value) (D K : List (List Int)), i = .int .i64 j ∧ j ≤ G.length ∧ Hid (Own w.heap.size wr c' m' n vd vk D K) ∧ Hid (Below w.heap.size w wr) ∧ Hid (D2 G D k j) ∧ Hid (Blk wr wo.heap.size 78 (u8s a)) ∧ Hid (Off wo.heap.size c' m' vd vk) ∧ Hid (k < D.length ∧ D.getD k [] = a)) (fun i _ => G.length - (intOf i).toNat)
          case atStart => exact ⟨0, vd, vk, D, K, rfl, Nat.zero_le _, HOX, HBX, HD, HQ, HF, HK⟩
          case round =>
            clear HOX HBX HD HQ HF HK
            obtain ⟨j, vd, vk, D, K, rfl, hj, HO, HB, HD, HQ, HF, HK⟩ := hrel
            by_cases hjl : j < G.length
            · obtain ⟨gg, cg', hag⟩ := HC.out.rg.form (by omega)
              cases hag
              have hr := (HC.out.below HB.out).rg.range (fun x hx => (HG.out.gels x hx).2) j hjl
              obtain ⟨b, hb⟩ : ∃ b, b = G.getD j [] := ⟨_, rfl⟩
              have hGb : Gen G b := by rw [hb]; exact Gen.of_mem HG.out.gels (getD_mem hjl)
              have hEb : El b := hGb.el HG.out.gels
              rw [← hb] at hr
              have HR := Lib.hid hr
              have HBB := Lib.hid hb
              have hi8 : (Try.prog.info? 78).map (·.size) = some (b.map (Value.int .u8)).length := by rw [List.length_map, hEb.2]; exact infoElem
              have HR0 := Lib.hid (Blk.new wr 78 #[.int .u8 0, .int .u8 0, .int .u8 0, .int .u8 0, .int .u8 0, .int .u8 0, .int .u8 0])
              have HRX := Lib.hid (Blk.setRow HR0.out (u8s b))
              have HBX := Lib.hid (below_row ((Below.refl wr.heap.size wr).alloc (Nat.le_refl _) (.cells #[.int .u8 0, .int .u8 0, .int .u8 0, .int .u8 0, .int .u8 0, .int .u8 0, .int .u8 0] 78)) wr.heap.size (u8s b) (Nat.le_refl _))
              have HQX := Lib.hid (HQ.out.below HBX.out)
              clear hb hr
              go_wp2_with (first | (refine wpList_load_mid rfl 78 _ rfl gg (j * 7) rfl (b.map (Value.int .u8)) _ HR.out Try.underlying78 rfl hi8 ?_) | (refine wpList_store_row rfl 78 _ _ rfl wr.heap.size (u8s b) rfl rfl 78 #[.int .u8 0, .int .u8 0, .int .u8 0, .int .u8 0, .int .u8 0, .int .u8 0, .int .u8 0] HR0.out (infoElem' hEb.2) (by rw [size_u8s, hEb.2]; rfl) (u8s_one b) ?_) | (refine wpList_load_row rfl 78 _ rfl wo.heap.size rfl 78 (u8s a) (0, 0) _ HQX.out Try.underlying78 rfl (infoElem' hEa.2) ?_) | (refine wpList_load_row rfl 78 _ rfl wr.heap.size rfl 78 (u8s b) (0, 0) _ HRX.out Try.underlying78 rfl (infoElem' hEb.2) ?_) | (go_at_call 82; refine (conj_el a b _ hEa.e7 hEb.e7).mono ?_; rintro r w2 ⟨rfl, hb2⟩; have HB2 := Lib.hid hb2; clear hb2))
              have hw2 : Below wr.heap.size wr w2 := HBX.out.trans (HB2.out.mono HBX.out.size)
              rw [cjTo_eq hEa hEb]
              have hEc : El (conjL a b) := hEa.conj hEb
              refine (extend_own (HO.out.below hw2) (HB.out.trans (hw2.mono HB.out.size)) hEc).mono ?_
              rintro r w3 ⟨rfl, vd', vk', D', K', o3, e1, e2, e3, b3, t3, l1, l2⟩
              have HF3 := Lib.hid (HF.out.next (Nat.lt_of_lt_of_le HQ.out.lt hw2.size) l1 l2)
              have hup := gen_up HO.out.grp.gels hEc e3
              have HO3 := Lib.hid o3
              have HB3 := Lib.hid b3
              have HQ3 := Lib.hid (show Blk w3 wo.heap.size 78 (u8s a) from (HQ.out.below hw2).turns t3 HF.out.not)
              have HK3 := Lib.hid (show k < D'.length ∧ D'.getD k [] = a from ⟨(ext_getD e1 HK.out.1).2, (ext_getD e1 HK.out.1).1.trans HK.out.2⟩)
              have HD3 := Lib.hid (show D2 G D' k (j + 1) from ⟨fun x hx y hy => hup.1 _ (HD.out.comm x hx y hy), fun s hs g hg => by
                rw [(ext_getD e1 (Nat.lt_trans hs HK.out.1)).1]; exact hup.1 _ (HD.out.rows s hs g hg), fun t ht => by
                rw [(ext_getD e1 HK.out.1).1]
                by_cases e : t = j
                · rw [e, HK.out.2, ← HBB.out]; exact hup.2
                · exact hup.1 _ (HD.out.row t (by omega)), fun d hd => by
                rcases ext_mem e1 hd with h | h
                · exact HD.out.der d h
                · rw [h]; exact der_conj' HG.out.gels hDa hGb⟩)
              clear hw2 o3 b3 t3 e1 e2 e3 l1 l2 hup HF HO HB HD HQ HR HBB hi8 HR0 HRX HBX HQX HB2 hEb hGb hEc HK
              go_wp2
              go_roundw
              case rel => exact ⟨j + 1, vd', vk', D', K', by go_num, by omega, HO3, HB3, HD3, HQ3, HF3, HK3⟩
              case measure => simp [intOf]; omega
            · have hje : j = G.length := by omega
              have HN := Lib.hid (show D2 G D (k + 1) 0 from ⟨HD.out.comm, fun s hs g hg => by
                by_cases e : s = k
                · obtain ⟨t, ht, e2⟩ := mem_getD hg
                  rw [e, ← e2]; exact HD.out.row t (by omega)
                · exact HD.out.rows s (by omega) g hg, fun t ht => by omega, HD.out.der⟩)
              have hkd := HK.out.1
              have hjl' : G.length ≤ j := by omega
              clear hje HD HQ HF HK
              go_wp2
              refine ⟨⟨k + 1, vd, vk, D, K, by simp, by omega, HO, HB, HN⟩, ?_⟩
              simp [intOf]; omega
        · have hke : k = D.length := by omega
          have HN := Lib.hid (show D2 G D D.length 0 from by rw [← hke]; exact HD.out)
          have hlt' : D.length ≤ k := by omega
          have HVD := Lib.hid hvd
          rw [hvd] at h1
          clear hke HD hvd hlt
          go_wp2
          go_ret
          exact ⟨c', m', vd, vk, D, K, rfl, HO.out, HN.out, HB.out⟩
end Go.Proofs.Ytjnjhfificpbbaa
namespace Go.Proofs.Ytjnjhfificpbbaa
open Go Go.RowKit

/-- the commutators of the elements of a list -/
def comms (L : List (List Int)) : List (List Int) := L.flatMap fun a => L.map fun b => commG a b
theorem mem_comms {L : List (List Int)} {x : List Int} : x ∈ comms L ↔ ∃ a b, a ∈ L ∧ b ∈ L ∧ x = commG a b := by
  simp only [comms, List.mem_flatMap, List.mem_map]
  constructor
  · rintro ⟨a, ha, b, hb, rfl⟩; exact ⟨a, b, ha, hb, rfl⟩
  · rintro ⟨a, b, ha, hb, rfl⟩; exact ⟨a, ha, b, hb, rfl⟩
theorem Grp.mem {G L : List (List Int)} (g : Grp G L) (a : List Int) : a ∈ L ↔ Gen G a := gen_list g.one (fun a x ha hx => g.cls a ha x hx) g.gen
theorem Grp.comms {G L : List (List Int)} (g : Grp G L) (x : List Int) : x ∈ comms L ↔ ∃ a b, Gen G a ∧ Gen G b ∧ x = commG a b := by
  rw [mem_comms]
  constructor
  · rintro ⟨a, b, ha, hb, e⟩; exact ⟨a, b, (g.mem a).1 ha, (g.mem b).1 hb, e⟩
  · rintro ⟨a, b, ha, hb, e⟩; exact ⟨a, b, (g.mem a).2 ha, (g.mem b).2 hb, e⟩
/-- K holds exactly the products of commutators of L -/
def IsDer (L K : List (List Int)) : Prop := ∀ a, a ∈ K ↔ Gen (comms L) a
theorem D2.isDer {G L D K : List (List Int)} (g : Grp G L) (k : Grp D K) (h : D2 G D D.length 0) : IsDer L K := fun a =>
  (k.mem a).trans (der_eq k.gels g.gels g.comms h.comm (fun d hd x hx => by
    obtain ⟨s, hs, rfl⟩ := mem_getD hd
    exact h.rows s hs x hx) (fun d hd => h.der d hd _ g.comms))
theorem IsDer.sub {G L K : List (List Int)} (g : Grp G L) (h : IsDer L K) {a : List Int} (ha : a ∈ K) : a ∈ L :=
  (g.mem a).2 (Gen.sub g.gels (fun c hc => by
    obtain ⟨x, y, hx, hy, rfl⟩ := (g.comms c).1 hc
    exact hx.comm g.gels hy) ((h a).1 ha))
theorem nodup_le {α : Type} [DecidableEq α] : ∀ {K L : List α}, K.Nodup → (∀ x ∈ K, x ∈ L) → K.length ≤ L.length
  | [], _, _, _ => Nat.zero_le _
  | a :: K, L, hn, hs => by
    rw [List.nodup_cons] at hn
    have ha : a ∈ L := hs a (by simp)
    have h1 := nodup_le (K := K) (L := L.erase a) hn.2 (fun x hx => (List.mem_erase_of_ne (fun e => hn.1 (by rw [← e]; exact hx))).2 (hs x (by simp [hx])))
    rw [List.length_erase_of_mem ha] at h1
    have : 0 < L.length := List.length_pos_of_mem ha
    simp only [List.length_cons]; omega
theorem nodup_full {α : Type} [DecidableEq α] {K L : List α} (hn : K.Nodup) (hs : ∀ x ∈ K, x ∈ L) (hl : L.length ≤ K.length) {x : α} (hx : x ∈ L) : x ∈ K := by
  by_cases h : x ∈ K
  · exact h
  · have := nodup_le (K := x :: K) (L := L) (List.nodup_cons.2 ⟨h, hn⟩) (fun y hy => by
      rcases List.mem_cons.1 hy with e | e
      · rw [e]; exact hx
      · exact hs y e)
    simp only [List.length_cons] at this; omega
/-- each is the derived group of the one before, and has fewer elements -/
def Chn : List (List (List Int)) → Prop
  | [] => True
  | [_] => True
  | L :: K :: r => IsDer L K ∧ K.length < L.length ∧ Chn (K :: r)
theorem Chn.snoc {L K : List (List Int)} (hd : IsDer L K) (hl : K.length < L.length) : ∀ {Ls : List (List (List Int))}, Chn (Ls ++ [L]) → Chn (Ls ++ [L] ++ [K])
  | [], _ => ⟨hd, hl, trivial⟩
  | [_], h => ⟨h.1, h.2.1, hd, hl, trivial⟩
  | _ :: M :: Ls, h => ⟨h.1, h.2.1, Chn.snoc (Ls := M :: Ls) hd hl h.2.2⟩
end Go.Proofs.Ytjnjhfificpbbaa
