/- (*closed).series. | (*closed).series: the walk. | Series and Solvable. | Series. -/
import Derived.Test.YtjnjhfificpbbaaUTG
import Derived.Test.YtjnjhfificpbbaaELM
import Derived.Maps.AppendAt
import Derived.Deep.QuietTactic
import Derived.BigQuiet
import Derived.Test.YtjnjhfificpbbaaSEQ
import Derived.Test.YtjnjhfificpbbaaPGR
namespace Go.Proofs.Ytjnjhfificpbbaa
open Go Go.RowKit

/-- a pointer to block c -/
def ptr (c : Nat) : Value := .pointer (some ⟨c, 0, none⟩)
/-- a member of the series: its block, its generators, its elements -/
structure Tri where
  c : Nat
  G : List (List Int)
  L : List (List Int)
/-- the group of a member lies in w, apart from block q -/
def MemG (w : World) (n : Int) (q : Nat) (t : Tri) : Prop := Grp t.G t.L ∧ ∃ B m vg vl, Clo B w t.c m n vg vl t.G t.L ∧ Off q t.c m vg vl
theorem Off.of_clo {B c m : Nat} {n : Int} {vg vl : Value} {G L : List (List Int)} {w : World} (h : Clo B w c m n vg vl G L) {q : Nat} (hq : w.heap.size ≤ q) : Off q c m vg vl :=
  ⟨fun e => by have := h.cells.lt; omega, fun e => by have := h.set.lt; omega, fun e => by have := (World.ownsRow.lt h.rg _ e.symm).2; omega, fun e => by have := (World.ownsRow.lt h.rl _ e.symm).2; omega⟩
theorem MemG.below {w w' : World} {n : Int} {q : Nat} {t : Tri} (h : MemG w n q t) (hb : Below w.heap.size w w') : MemG w' n q t := by
  obtain ⟨g, B, m, vg, vl, h1, h2⟩ := h
  exact ⟨g, B, m, vg, vl, h1.below hb, h2⟩
theorem MemG.off {w : World} {n : Int} {q q' : Nat} {t : Tri} (h : MemG w n q t) (hq : w.heap.size ≤ q') : MemG w n q' t := by
  obtain ⟨g, B, m, vg, vl, h1, _⟩ := h
  exact ⟨g, B, m, vg, vl, h1, Off.of_clo h1 hq⟩
theorem MemG.turn {w w' : World} {n : Int} {q : Nat} {t : Tri} (h : MemG w n q t) (ht : Turns (fun b => b = q) w w') : MemG w' n q t := by
  obtain ⟨g, B, m, vg, vl, h1, h2⟩ := h
  refine ⟨g, B, m, vg, vl, h1.turns ht (fun e => h2.1 e.symm) (fun e => h2.2.1 e.symm) (fun b hb e => h2.2.2.1 (by rw [hb, e])) (fun b hb e => h2.2.2.2 (by rw [hb, e])), h2⟩
/-- the row of pointers -/
def PRow (B : Nat) (w : World) (v : Value) (ts : List Tri) : Prop := w.ownsRow B 58 1 v ts.length (ts.map fun t => ptr t.c)
theorem infoPtr : (Try.prog.info? 58).map (fun i => (i.zero, i.size, i.bytes)) = some (some (.pointer none), 1, 8) := by kernel_rfl
/-- how many elements the group behind a pointer has -/
def lenAt (v : Value) (w : World) : Nat := match v with
  | .pointer (some a) => lenOf ((w.cell? ⟨a.block, 2, none⟩).getD undef)
  | _ => 0
theorem lenAt_of {w : World} {c l k : Nat} {b : Option Addr} (h : w.cell? ⟨c, 2, none⟩ = some (.slice b l k)) : lenAt (ptr c) w = l := by
  simp [lenAt, ptr, h, lenOf]
theorem MemG.len {w : World} {n : Int} {q : Nat} {t : Tri} (h : MemG w n q t) : lenAt (.pointer (some ⟨t.c, 0, none⟩)) w = t.L.length := by
  obtain ⟨g, B, m, vg, vl, h1, _⟩ := h
  obtain ⟨a, cap, rfl⟩ := h1.rl.slice
  exact lenAt_of (by simpa using h1.cells.cell 2)
theorem MemG.next {w w' : World} {n : Int} {q q' : Nat} {t : Tri} (h : MemG w n q t) (ht : Turns (fun b => b = q) w w') (hq : q' = q ∨ w.heap.size ≤ q') : MemG w' n q' t := by
  obtain ⟨g, B, m, vg, vl, h1, h2⟩ := h
  refine ⟨g, B, m, vg, vl, h1.turns ht (fun e => h2.1 e.symm) (fun e => h2.2.1 e.symm) (fun b hb e => h2.2.2.1 (by rw [hb, e])) (fun b hb e => h2.2.2.2 (by rw [hb, e])), ?_⟩
  rcases hq with e | e
  · rw [e]; exact h2
  · exact Off.of_clo h1 e
theorem PRow.below {B : Nat} {w w' : World} {v : Value} {ts : List Tri} (h : PRow B w v ts) (hb : Below w.heap.size w w') : PRow B w' v ts :=
  World.ownsRow.kept (row := none) h ⟨hb.os, hb.tape, hb.output, hb.size, fun k hk _ => hb.block k hk⟩ (by cases hv : v.ownBlock <;> simp)
theorem MemG.of_own {B q : Nat} {n : Int} {c m : Nat} {vg vl : Value} {G L : List (List Int)} {w : World} (h : Own B w c m n vg vl G L) (hq : q < B) : MemG w n q ⟨c, G, L⟩ :=
  ⟨h.grp, B, m, vg, vl, h.clo, fun e => by have := h.oc; simp only at e; omega, fun e => by have := h.om; omega, fun e => by have := h.og _ e.symm; omega, fun e => by have := h.ol _ e.symm; omega⟩
end Go.Proofs.Ytjnjhfificpbbaa
namespace Go.Proofs.Ytjnjhfificpbbaa
open Go Go.RowKit

set_option maxRecDepth 100000 in
set_option maxHeartbeats 4000000 in
theorem series_any {B c m : Nat} {n : Int} {vg vl : Value} {G L : List (List Int)} {w : World} (h : Clo B w c m n vg vl G L) (g : Grp G L) :
    Calls Try.prog 59 #[.pointer (some ⟨c, 0, none⟩)] w fun e w' => ∃ v ts t q, e = .returned v ∧ PRow w.heap.size w' v (ts ++ [t]) ∧ (∀ x ∈ ts ++ [t], MemG w' n q x) ∧ Chn ((ts ++ [t]).map (·.L)) ∧ ((ts ++ [t]).map (·.L)).head? = some L ∧ IsDer t.L t.L ∧ Below w.heap.size w w' := by
  obtain ⟨i0, hi, hz0, hz1, hz2⟩ := info_parts infoPtr
  have hLlen := g.len
  have HB0 := Lib.hid ((Below.refl _ w).alloc (Nat.le_refl _) (.cells #[.pointer (some ⟨c, 0, none⟩)] 58))
  have HM0 := Lib.hid (show MemG (w.alloc (.cells #[.pointer (some ⟨c, 0, none⟩)] 58)) n w.heap.size ⟨c, G, L⟩ from
    ⟨g, B, m, vg, vl, h.below HB0.out, Off.of_clo h (Nat.le_refl _)⟩)
  have HR0 := Lib.hid (show PRow w.heap.size (w.alloc (.cells #[.pointer (some ⟨c, 0, none⟩)] 58)) (.slice (some ⟨w.heap.size, 0, none⟩) 1 1) [⟨c, G, L⟩] from
    ⟨by simp, .inr ⟨w.heap.size, 1, #[.pointer (some ⟨c, 0, none⟩)], rfl, Nat.le_refl _, Blk.new _ _ _, by simp, by unfold maxLen; omega, by simp, by simp [ptr]⟩⟩)
  clear h g
  go_enter Try.func59, Try.ntmps59
  go_wp2_with fail
  obtain ⟨s, hs⟩ : ∃ s, s = w.heap.size := ⟨_, rfl⟩
  rw [← hs] at HM0 HR0 HB0
  try rw [← hs]
  have HS := Lib.hid hs
  clear hs
  go_loopw [0, 3] (fun pv lv wr => ∃ (ts : List Tri) (t : Tri) (q cap : Nat), pv = .pointer (some ⟨t.c, 0, none⟩) ∧ lv = .slice (some ⟨q, 0, none⟩) (ts.length + 1) cap ∧ Hid (PRow s wr (.slice (some ⟨q, 0, none⟩) (ts.length + 1) cap) (ts ++ [t])) ∧ Hid (∀ x ∈ ts ++ [t], MemG wr n q x) ∧ Hid (Chn ((ts ++ [t]).map (·.L))) ∧ Hid (((ts ++ [t]).map (·.L)).head? = some L) ∧ Hid (ts.length + t.L.length ≤ L.length) ∧ Hid (Below s w wr)) (fun pv _ wr => lenAt pv wr)
  case atStart => exact ⟨[], ⟨c, G, L⟩, s, 1, rfl, rfl, HR0, Lib.hid (fun x hx => by rw [List.mem_singleton.1 hx]; exact HM0.out), Lib.hid trivial, Lib.hid rfl, Lib.hid (by simp), HB0⟩
  case round =>
    obtain ⟨ts, t, q, cap, rfl, rfl, HR, HM, HC, HH, HN, HB⟩ := hrel
    obtain ⟨g, B', m', vg', vl', hcl, hoff⟩ := HM.out t (by simp)
    have HG := Lib.hid g
    have HCl := Lib.hid hcl
    have hq : q < wr.heap.size := (World.ownsRow.lt HR.out q rfl).2
    have hqs : s ≤ q := (World.ownsRow.lt HR.out q rfl).1
    have hlen0 := (HM.out t (by simp)).len
    have HLen0 := Lib.hid hlen0
    clear g hcl hoff hlen0
    go_wp2_with fail
    refine (derive_any HCl.out HG.out).mono ?_
    rintro e w1 ⟨c', m1, vg1, vl1, D, K, rfl, ho, hd, hb1⟩
    have HK := Lib.hid (D2.isDer HG.out ho.grp hd)
    have HO := Lib.hid ho
    have HB1 := Lib.hid hb1
    obtain ⟨a1, cap1, hv1⟩ := ho.clo.rl.slice
    obtain ⟨a2, cap2, hv2⟩ := HCl.out.rl.slice
    have k1 : w1.cell? ⟨c', 2, none⟩ = some (.slice a1 K.length cap1) := by rw [← hv1]; simpa using ho.clo.cells.cell 2
    have k2 : w1.cell? ⟨t.c, 2, none⟩ = some (.slice a2 t.L.length cap2) := by rw [← hv2]; simpa using (HCl.out.below hb1).cells.cell 2
    have hle : K.length ≤ t.L.length := nodup_le ho.grp.nd (fun x hx => IsDer.sub HG.out HK.out hx)
    clear ho hd hb1 hv1 hv2
    by_cases hlen : K.length = t.L.length
    · have HE := Lib.hid (show IsDer t.L t.L from fun a => ⟨fun ha => (HK.out a).1 (nodup_full HO.out.grp.nd (fun x hx => IsDer.sub HG.out HK.out hx) (by omega) ha), fun ha => IsDer.sub HG.out HK.out ((HK.out a).2 ha)⟩)
      have DE : ((K.length : Int) == (t.L.length : Int)) = true := by simp; omega
      clear hlen hle
      go_wp2_with fail
      go_quiet (fail)
      go_wp2_with fail
      go_ret
      have hbb : Below wr.heap.size wr (w1.drewN nq) := below_drewN' HB1.out nq
      rw [← HS.out]
      exact ⟨_, ts, t, q, rfl, HR.out.below hbb, fun x hx => (HM.out x hx).below hbb, HC.out, HH.out, HE.out, HB.out.trans (hbb.mono (by have := HB.out.size; have := HS.out; omega))⟩
    · have DE : ((K.length : Int) == (t.L.length : Int)) = false := by simp; omega
      have hlt : K.length < t.L.length := by omega
      have HLt := Lib.hid hlt
      clear hlen hle hlt
      go_wp2_with fail
      go_quiet (fail)
      have hbb : Below wr.heap.size wr (w1.drewN nq) := below_drewN' HB1.out nq
      have hO2 : Own wr.heap.size (w1.drewN nq) c' m1 n vg1 vl1 D K := HO.out.below (below_drewN' (Below.refl _ _) nq)
      generalize w1.drewN nq = w2 at *
      have hzz := hbb.size
      have HB2 := Lib.hid hbb
      have HO2 := Lib.hid hO2
      have HB3 := Lib.hid (hbb.alloc hbb.size (.cells #[.pointer (some ⟨c', 0, none⟩)] 58))
      have HR3 := Lib.hid (HR.out.below HB3.out)
      have HTL := Lib.hid (show (ts ++ [t]).length ≤ 900000 by have := HN.out; have := HLt.out; simp; omega)
      have HBase := Lib.hid (show s ≤ (w2.alloc (.cells #[.pointer (some ⟨c', 0, none⟩)] 58)).heap.size by have := HB.out.size; have := HS.out; simp; omega)
      clear hbb hO2 k1 k2
      go_wp2_with (at_builtin; go_loud (refine wpList_append_own_at _ rfl _ _ 70 rfl s 58 i0 (.pointer none) 1 8 Try.underlying70 hi hz0 hz1 hz2 rfl (by decide) (.slice (some ⟨q, 0, none⟩) (ts.length + 1) cap) _ _ rfl HR3.out ⟨w2.heap.size, 0, none⟩ 1 1 [.pointer (some ⟨c', 0, none⟩)] rfl rfl (cell_one_new _ _ _) (by simp [Value.oneCell']) (by have := HTL.out; unfold maxLen; omega) (by have := HTL.out; omega) HBase.out ?_; intro v' w4 hown' hgrow _ hat; obtain ⟨g', cap', rfl⟩ := row_succ hown'; have HOwn := Lib.hid hown'; have HGrow := Lib.hid hgrow; have HAt := Lib.hid hat; clear hown' hgrow hat))
      have hg := HGrow.out
      have ht : Turns (fun b => b = q) (w2.alloc (.cells #[.pointer (some ⟨c', 0, none⟩)] 58)) w4 := ⟨hg.os, hg.tape, hg.output, hg.size, fun k hk hne => hg.block k hk (fun e => hne (by simpa [Value.ownBlock] using e))⟩
      have hq' : g' = q ∨ (w2.alloc (.cells #[.pointer (some ⟨c', 0, none⟩)] 58)).heap.size ≤ g' := by
        rcases HAt.out with e | e
        · left; simpa [Value.ownBlock] using e
        · right
          have : g' = (w2.alloc (.cells #[.pointer (some ⟨c', 0, none⟩)] 58)).heap.size := by simpa [Value.ownBlock] using e
          omega
      have HM4 := Lib.hid (show ∀ x ∈ ts ++ [t] ++ [⟨c', D, K⟩], MemG w4 n g' x from fun x hx => by
        rcases List.mem_append.1 hx with hx | hx
        · exact ((HM.out x hx).below HB3.out).next ht hq'
        · rw [List.mem_singleton.1 hx]
          exact ((MemG.of_own HO2.out hq).below ((Below.refl _ w2).alloc (Nat.le_refl _) _)).next ht hq')
      have HC4 := Lib.hid (show Chn ((ts ++ [t] ++ [(⟨c', D, K⟩ : Tri)]).map (·.L)) by
        have := Chn.snoc (Ls := ts.map (·.L)) HK.out HLt.out (by simpa using HC.out)
        simpa using this)
      have HH4 := Lib.hid (show ((ts ++ [t] ++ [(⟨c', D, K⟩ : Tri)]).map (·.L)).head? = some L by
        have := HH.out
        cases ts with
        | nil => simpa using this
        | cons a ts => simpa using this)
      have HL4 := Lib.hid (show (ts ++ [t]).length + K.length ≤ L.length by have := HN.out; have := HLt.out; simp; omega)
      have HB4 := Lib.hid (show Below s w w4 from (HB.out.trans (HB3.out.mono (by have := HB.out.size; have := HS.out; omega))).grown hg HBase.out (fun k e => by
        have : q = k := by simpa [Value.ownBlock] using e
        omega))
      have HR4 := Lib.hid (show PRow s w4 (.slice (some ⟨g', 0, none⟩) ((ts ++ [t]).length + 1) cap') (ts ++ [t] ++ [⟨c', D, K⟩]) by
        unfold PRow
        have := HOwn.out
        simpa [ptr] using this)
      have hln := (HM4.out ⟨c', D, K⟩ (by simp)).len
      have HLn := Lib.hid hln
      clear hg ht hq' hln
      go_wp2_with fail
      go_roundw
      case rel => exact ⟨ts ++ [t], ⟨c', D, K⟩, g', cap', rfl, by simp, HR4, HM4, HC4, HH4, HL4, HB4⟩
      case measure =>
        have e1 := HLn.out
        have e2 := HLen0.out
        have e3 := HLt.out
        show lenAt _ _ < lenAt _ _
        rw [e1, e2]; exact e3
end Go.Proofs.Ytjnjhfificpbbaa
namespace Go.Proofs.Ytjnjhfificpbbaa
open Go Go.RowKit

/-- a chain has no more members than its first one has elements, and one -/
theorem Chn.count : ∀ {Ls : List (List (List Int))} {L : List (List Int)}, Chn (L :: Ls) → Ls.length ≤ L.length
  | [], _, _ => Nat.zero_le _
  | K :: Ls, L, h => by
    have := Chn.count h.2.2
    have := h.2.1
    simp only [List.length_cons]; omega
/-- the derived series of a closed list, by members -/
def SerOf (ps : List (List Int)) (Ls : List (List (List Int))) : Prop := Chn Ls ∧ (∃ L0, Ls.head? = some L0 ∧ ∀ x, x ∈ L0 ↔ x ∈ pks ps) ∧ (∃ M, Ls.getLast? = some M ∧ IsDer M M) ∧ ∀ L ∈ Ls, L.Nodup
theorem SerOf.of {ps : List (List Int)} {L : List (List Int)} {n : Int} {q : Nat} {w : World} {ts : List Tri} {t : Tri} (hg : IsGrp ps) (hm : ∀ a, a ∈ L ↔ Gen (pks ps) a) (h1 : ∀ x ∈ ts ++ [t], MemG w n q x) (h2 : Chn ((ts ++ [t]).map (·.L))) (h3 : ((ts ++ [t]).map (·.L)).head? = some L) (h4 : IsDer t.L t.L) : SerOf ps ((ts ++ [t]).map (·.L)) :=
  ⟨h2, ⟨L, h3, hg.mem hm⟩, ⟨t.L, by simp, h4⟩, fun L hL => by
    obtain ⟨x, hx, rfl⟩ := List.mem_map.1 hL
    exact (h1 x hx).1.nd⟩
theorem PRow.at {B g cap k : Nat} {w : World} {ts : List Tri} (h : PRow B w (.slice (some ⟨g, 0, none⟩) k cap) ts) {i : Nat} (hi : i < ts.length) : w.cell? ⟨g, i, none⟩ = some (.pointer (some ⟨(ts[i]).c, 0, none⟩)) := by
  have hk : k = ts.length := by
    rcases h.2 with ⟨e, _⟩ | ⟨g, cap, cur, e, _⟩
    · cases e
    · cases e; rfl
  subst hk
  have := World.ownsRow.cellAt h i (by omega)
  rw [this]
  simp [hi, ptr]
theorem PRow.form {B : Nat} {w : World} {v : Value} {ts : List Tri} (h : PRow B w v ts) (hn : 0 < ts.length) : ∃ g cap, v = .slice (some ⟨g, 0, none⟩) ts.length cap := by
  rcases h.2 with ⟨_, h⟩ | ⟨g, cap, cur, h, _⟩
  · omega
  · exact ⟨g, cap, h⟩

set_option maxRecDepth 100000 in
set_option maxHeartbeats 2000000 in
theorem Solvable_any (v : Value) (ps : List (List Int)) (w : World) (h : Sps w v ps) (hx : ∀ i, i < ps.length → (ps.getD i []).length ≤ 1000000) :
    Calls Try.prog 23 #[v] w fun e w' => Below w.heap.size w w' ∧ ((¬ IsGrp ps ∧ e = .returned (.tuple #[.bool false, .int .i64 1])) ∨ (IsGrp ps ∧ ∃ Ls M r, e = .returned (.tuple #[.bool r, .int .i64 0]) ∧ SerOf ps Ls ∧ Ls.getLast? = some M ∧ Says r (M.length = 1))) := by
  have HH := Lib.hid h
  have HX := Lib.hid hx
  obtain ⟨a, cap, rfl, _⟩ := h
  obtain ⟨n, hn⟩ : ∃ n, n = ps.length := ⟨_, rfl⟩
  rw [← hn] at HH ⊢
  clear hx hn
  go_enter Try.func23, Try.ntmps23
  go_wp2_with fail
  refine (closedOf_any _ ps _ HH.out HX.out).mono ?_
  rintro e w1 ⟨hb1, ⟨hf, rfl⟩ | ⟨hg, c, m, vg, vl, G, L, rfl, ho, hm⟩⟩
  · have HF := Lib.hid hf
    have HB1 := Lib.hid hb1
    clear hf hb1
    go_wp2_with fail
    go_ret2
    exact ⟨HB1.out, .inl ⟨HF.out, rfl⟩⟩
  · have HG := Lib.hid hg
    have HO := Lib.hid ho
    have HM := Lib.hid hm
    have HB1 := Lib.hid hb1
    clear hg ho hm hb1
    go_wp2_with fail
    refine (series_any HO.out.clo HO.out.grp).mono ?_
    rintro e w2 ⟨x, ts, t, q, rfl, hp, hmem, hch, hh, hd, hb2⟩
    have HB2 := Lib.hid (HB1.out.trans (hb2.mono HB1.out.size))
    have HSer := Lib.hid (SerOf.of HG.out HM.out hmem hch hh hd)
    obtain ⟨g2, cap2, rfl⟩ := hp.form (by simp)
    have c1 := hp.at (i := ts.length) (by simp)
    obtain ⟨gt, B', m', vg', vl', hcl, _⟩ := hmem t (by simp)
    obtain ⟨a1, cap1, hv1⟩ := hcl.rl.slice
    have k1 : w2.cell? ⟨t.c, 2, none⟩ = some (.slice a1 t.L.length cap1) := by rw [← hv1]; simpa using hcl.cells.cell 2
    obtain ⟨l, hl⟩ : ∃ l, l = ts.length := ⟨_, rfl⟩
    have hlt : (ts ++ [t]).length = l + 1 := by simp [hl]
    rw [hlt]
    simp only [List.getElem_concat_length] at c1
    rw [← hl] at c1
    have ek : ((l + 1 : Nat) : Int) - 1 = (l : Int) := by omega
    have HLT := Lib.hid hlt
    have hl9 : l + 1 ≤ 9223372036854775807 := by
      have h9 : l + 1 ≤ maxLen := by
        rw [← hlt]
        rcases hp.2 with ⟨e, _⟩ | ⟨_, _, _, e, _, _, e1, e2, _⟩
        · cases e
        · cases e; exact Nat.le_trans e1 e2
      unfold maxLen at h9
      omega
    clear hp hmem hch hh hd hb2 hcl hv1 hl hlt
    by_cases h1 : t.L.length = 1
    · have D : ((t.L.length : Int) == 1) = true := by simp; omega
      have HT := Lib.hid h1
      clear h1
      go_wp2_with fail
      go_ret2
      exact ⟨HB2.out, .inr ⟨HG.out, _, t.L, true, rfl, HSer.out, by simp, Says.yes HT.out⟩⟩
    · have D : ((t.L.length : Int) == 1) = false := by simp; omega
      have HT := Lib.hid h1
      clear h1
      go_wp2_with fail
      go_ret2
      exact ⟨HB2.out, .inr ⟨HG.out, _, t.L, false, rfl, HSer.out, by simp, Says.no HT.out⟩⟩
end Go.Proofs.Ytjnjhfificpbbaa
namespace Go.Proofs.Ytjnjhfificpbbaa
open Go Go.RowKit

/-- as PermsOf, and none of its blocks is q -/
def PermsQ (B q n : Nat) (L : List (List Int)) (x : Value) (w : World) : Prop :=
  ∃ L' vs, L'.Perm L ∧ Asc L' ∧ vs.length = L'.length ∧ w.ownsRow B 32 1 x L'.length vs ∧ (∀ i, i < L'.length → Ow B w (vs.getD i undef) ((L'.getD i []).take n)) ∧ x.ownBlock ≠ some q ∧ ∀ i, i < L'.length → (vs.getD i undef).ownBlock ≠ some q
theorem getD_take {L : List (List Int)} {n i : Nat} (h : i < L.length) : (L.map (List.take n)).getD i [] = (L.getD i []).take n := by simp [h]
theorem PermsQ.of {B q n : Nat} {L : List (List Int)} {x : Value} {w : World} (h : PermsOf B n L x w) (hq : q < B) : PermsQ B q n L x w := by
  obtain ⟨L', h1, h2, vs, h3, h4, h5⟩ := h
  rw [List.length_map] at h3 h4 h5
  refine ⟨L', vs, h1, h2, h3, h4, fun i hi => by rw [← getD_take hi]; exact h5 i hi, fun e => by have := (World.ownsRow.lt h4 q e).1; omega, fun i hi e => by have := ((h5 i hi).lt q e).1; omega⟩
theorem PermsQ.perms {B q n : Nat} {L : List (List Int)} {x : Value} {w : World} (h : PermsQ B q n L x w) : PermsOf B n L x w := by
  obtain ⟨L', vs, h1, h2, h3, h4, h5, _, _⟩ := h
  refine ⟨L', h1, h2, vs, by rw [List.length_map]; exact h3, by rw [List.length_map]; exact h4, fun i hi => ?_⟩
  rw [List.length_map] at hi
  rw [getD_take hi]; exact h5 i hi
theorem PermsQ.next {B q q' n : Nat} {L : List (List Int)} {x : Value} {w w' : World} (h : PermsQ B q n L x w) (ht : Turns (fun b => b = q) w w') (hq : q' = q ∨ w.heap.size ≤ q') : PermsQ B q' n L x w' := by
  obtain ⟨L', vs, h1, h2, h3, h4, h5, h6, h7⟩ := h
  refine ⟨L', vs, h1, h2, h3, World.ownsRow.kept (row := some q) h4 ⟨ht.os, ht.tape, ht.output, ht.size, fun k hk hne => ht.block k hk (fun e => hne (by rw [e]))⟩ (.inr h6), fun i hi => (h5 i hi).turns ht (fun r e er => h7 i hi (by rw [e, er])), ?_, fun i hi => ?_⟩
  · rcases hq with e | e
    · rw [e]; exact h6
    · intro e1; have := (World.ownsRow.lt h4 q' e1).2; omega
  · rcases hq with e | e
    · rw [e]; exact h7 i hi
    · intro e1; have := ((h5 i hi).lt q' e1).2; omega
theorem PermsQ.below {B q n : Nat} {L : List (List Int)} {x : Value} {w w' : World} (h : PermsQ B q n L x w) (hb : Below w.heap.size w w') : PermsQ B q n L x w' :=
  h.next ⟨hb.os, hb.tape, hb.output, hb.size, fun k hk _ => hb.block k hk⟩ (.inl rfl)
theorem PermsQ.mono {B B' q n : Nat} {L : List (List Int)} {x : Value} {w : World} (h : PermsQ B q n L x w) (hB : B' ≤ B) : PermsQ B' q n L x w := by
  obtain ⟨L', vs, h1, h2, h3, h4, h5, h6, h7⟩ := h
  refine ⟨L', vs, h1, h2, h3, ⟨h4.1, ?_⟩, fun i hi => (h5 i hi).mono hB, h6, h7⟩
  rcases h4.2 with h | ⟨g, cap, cur, e1, e2, e3⟩
  · exact .inl h
  · exact .inr ⟨g, cap, cur, e1, Nat.le_trans hB e2, e3⟩
theorem PermsOf.slice {B n : Nat} {L : List (List Int)} {x : Value} {w : World} (h : PermsOf B n L x w) : ∃ a l c, x = .slice a l c := by
  obtain ⟨L', _, _, vs, _, h4, _⟩ := h
  rcases h4.2 with ⟨h, _⟩ | ⟨g, cap, cur, e1, _⟩
  · exact ⟨_, _, _, h⟩
  · exact ⟨_, _, _, e1⟩
theorem infoPs : (Try.prog.info? 22).map (fun i => (i.zero, i.size, i.bytes)) = some (some (.slice none 0 0), 1, 24) := by kernel_rfl
/-- a row of lists of permutations -/
def VRow (B : Nat) (w : World) (v : Value) (xs : List Value) : Prop := w.ownsRow B 22 1 v xs.length xs

set_option maxRecDepth 100000 in
set_option maxHeartbeats 4000000 in
theorem Series_any (v : Value) (ps : List (List Int)) (w : World) (h : Sps w v ps) (hx : ∀ i, i < ps.length → (ps.getD i []).length ≤ 1000000) :
    Calls Try.prog 22 #[v] w fun e w' => Below w.heap.size w w' ∧ ((¬ IsGrp ps ∧ e = .returned (.tuple #[.slice none 0 0, .int .i64 1])) ∨ (IsGrp ps ∧ ∃ x xs Ls, e = .returned (.tuple #[x, .int .i64 0]) ∧ SerOf ps Ls ∧ xs.length = Ls.length ∧ VRow w.heap.size w' x xs ∧ ∀ i, i < Ls.length → PermsOf w.heap.size (ps.getD 0 []).length (Ls.getD i []) (xs.getD i undef) w')) := by
  obtain ⟨i0, hi, hz0, hz1, hz2⟩ := info_parts infoPs
  have HH := Lib.hid h
  have HX := Lib.hid hx
  obtain ⟨a, cap, rfl, _⟩ := h
  obtain ⟨n, hn⟩ : ∃ n, n = ps.length := ⟨_, rfl⟩
  rw [← hn] at HH ⊢
  clear hx hn
  go_enter Try.func22, Try.ntmps22
  go_wp2_with fail
  refine (closedOf_any _ ps _ HH.out HX.out).mono ?_
  rintro e w1 ⟨hb1, ⟨hf, rfl⟩ | ⟨hg, c, m, vg, vl, G, L, rfl, ho, hm⟩⟩
  · have HF := Lib.hid hf
    have HB1 := Lib.hid hb1
    clear hf hb1
    go_wp2_with fail
    go_ret2
    exact ⟨HB1.out, .inl ⟨HF.out, rfl⟩⟩
  · have HG := Lib.hid hg
    have HO := Lib.hid ho
    have HM := Lib.hid hm
    have HB1 := Lib.hid hb1
    clear hg ho hm hb1
    go_wp2_with fail
    refine (series_any HO.out.clo HO.out.grp).mono ?_
    rintro e w2 ⟨y, ts, t, q0, rfl, hp, hmem, hch, hh, hd, hb2⟩
    have HB2 := Lib.hid (HB1.out.trans (hb2.mono HB1.out.size))
    have HSer := Lib.hid (SerOf.of HG.out HM.out hmem hch hh hd)
    obtain ⟨TS, hTS⟩ : ∃ TS, TS = ts ++ [t] := ⟨_, rfl⟩
    rw [← hTS] at hp hmem HSer
    have hpos : 0 < TS.length := by rw [hTS]; simp
    obtain ⟨g2, cap2, rfl⟩ := hp.form hpos
    have hcount : TS.length ≤ 900000 := by
      rw [← hTS] at hch hh
      cases TS with
      | nil => simp
      | cons a r =>
        have h1 := Chn.count (show Chn (a.L :: r.map (·.L)) from hch)
        have h2 := (hmem a (by simp)).1.len
        simp only [List.length_map] at h1
        simp only [List.length_cons]; omega
    have hg2 : g2 < w2.heap.size := (World.ownsRow.lt hp g2 rfl).2
    have HP := Lib.hid hp
    have HMem := Lib.hid hmem
    obtain ⟨N, hN⟩ : ∃ N, N = TS.length := ⟨_, rfl⟩
    have HNN := Lib.hid hN
    rw [← hN] at HP hpos hcount ⊢
    have HSev := Lib.hid HG.out.seven
    obtain ⟨d0, hd0⟩ : ∃ d0, d0 = (ps.getD 0 []).length := ⟨_, rfl⟩
    rw [← hd0] at HSev HMem
    have HD0 := Lib.hid hd0
    clear hp hmem hch hh hd hb2 hTS hN hd0
    go_wp2_with fail
    go_loopw [6, 20] (fun lv iv wr => ∃ (k q : Nat) (xs : List Value), iv = .int .i64 k ∧ k ≤ N ∧ Hid (xs.length = k) ∧ q < wr.heap.size ∧ Hid (lv.ownBlock = none ∨ lv.ownBlock = some q) ∧ Hid (VRow w2.heap.size wr lv xs) ∧ Hid (∀ i, i < k → PermsQ w2.heap.size q d0 ((TS.map (·.L)).getD i []) (xs.getD i undef) wr) ∧ Hid (Below w2.heap.size w2 wr)) (fun _ iv _ => N - (intOf iv).toNat)
    case atStart => exact ⟨0, g2, [], rfl, Nat.zero_le _, Lib.hid rfl, hg2, Lib.hid (.inl rfl), Lib.hid (World.ownsRow_nil _ _ _ _), Lib.hid (fun i hi => by omega), Lib.hid (Below.refl _ _)⟩
    case round =>
      obtain ⟨k, q, xs, rfl, hk, HLen, hq, HOB, HR, HPs, HB⟩ := hrel
      by_cases hlt : k < N
      · have hkT : k < TS.length := by rw [← HNN.out]; exact hlt
        have c1 := (HB.out.cell (p := ⟨g2, k, none⟩) hg2).trans (HP.out.at hkT)
        have hmk := (HMem.out TS[k] (List.getElem_mem hkT)).below HB.out
        have hLk : (TS.map (·.L)).getD k [] = TS[k].L := by simp [hkT]
        obtain ⟨tk, htk⟩ : ∃ tk, tk = TS[k] := ⟨_, rfl⟩
        rw [← htk] at c1 hmk hLk
        obtain ⟨gk, Bk, mk, vgk, vlk, hck, _⟩ := hmk
        have HGk := Lib.hid gk
        have HCk := Lib.hid hck
        have HLk := Lib.hid hLk
        clear hkT htk gk hck hLk
        go_wp2_with fail
        refine (perms_any HCk.out HGk.out HSev.out).mono ?_
        rintro e w3 ⟨x, rfl, hpx, hb3⟩
        obtain ⟨xa, xl, xc, rfl⟩ := hpx.slice
        have HPx := Lib.hid hpx
        have HB3 := Lib.hid (hb3.alloc hb3.size (.cells #[Value.slice xa xl xc] 22))
        have HR3 := Lib.hid (show VRow w2.heap.size (w3.alloc (.cells #[Value.slice xa xl xc] 22)) _ xs from World.ownsRow.kept (row := none) HR.out ⟨HB3.out.os, HB3.out.tape, HB3.out.output, HB3.out.size, fun k hk _ => HB3.out.block k hk⟩ (by rcases HOB.out with e | e <;> simp [e]))
        have HXL := Lib.hid (show xs.length ≤ 900000 by rw [HLen.out]; omega)
        have hz3 := hb3.size
        have hzb := HB.out.size
        clear hpx hb3
        obtain ⟨la, ll, lc, rfl⟩ : ∃ la ll lc, _ = Value.slice la ll lc := by
          rcases HR.out.2 with ⟨h, _⟩ | ⟨g, cap, cur, e1, _⟩
          · exact ⟨_, _, _, h⟩
          · exact ⟨_, _, _, e1⟩
        go_wp2_with (at_builtin; refine wpList_append_own_at _ rfl _ _ 33 rfl w2.heap.size 22 i0 (.slice none 0 0) 1 24 Try.underlying33 hi hz0 hz1 hz2 rfl (by decide) (.slice la ll lc) _ _ rfl HR3.out ⟨w3.heap.size, 0, none⟩ 1 1 [Value.slice xa xl xc] rfl rfl (cell_one_new _ _ _) (by simp [Value.oneCell']) (by have := HXL.out; unfold maxLen; omega) (by have := HXL.out; omega) (by simp; omega) ?_; intro v' w4 hown' hgrow _ hat; obtain ⟨g', cap', rfl⟩ := row_succ hown'; have HOwn := Lib.hid hown'; have HGrow := Lib.hid hgrow; have HAt := Lib.hid hat; clear hown' hgrow hat)
        have hg := HGrow.out
        have ht : Turns (fun b => b = q) (w3.alloc (.cells #[Value.slice xa xl xc] 22)) w4 := ⟨hg.os, hg.tape, hg.output, hg.size, fun k hk hne => hg.block k hk (fun e => by
          rcases HOB.out with e1 | e1
          · rw [e1] at e; cases e
          · rw [e1] at e; exact hne (Option.some.inj e))⟩
        have hq' : g' = q ∨ (w3.alloc (.cells #[Value.slice xa xl xc] 22)).heap.size ≤ g' := by
          rcases HAt.out with e | e
          · rcases HOB.out with e1 | e1
            · rw [e1] at e; cases e
            · rw [e1] at e; left; simpa [Value.ownBlock] using e
          · right
            have : g' = (w3.alloc (.cells #[Value.slice xa xl xc] 22)).heap.size := by simpa [Value.ownBlock] using e
            omega
        have HQ4 := Lib.hid (World.ownsRow.lt HOwn.out g' rfl).2
        have HPs4 := Lib.hid (show ∀ i, i < k + 1 → PermsQ w2.heap.size g' d0 ((TS.map (·.L)).getD i []) ((xs ++ [Value.slice xa xl xc]).getD i undef) w4 from fun i hi => by
          by_cases e : i = k
          · subst e
            have e2 : (xs ++ [Value.slice xa xl xc]).getD i undef = Value.slice xa xl xc := by rw [← HLen.out]; simp
            rw [e2, HLk.out]
            exact (((PermsQ.of HPx.out hq).below ((Below.refl _ w3).alloc (Nat.le_refl _) _)).next ht hq').mono hzb
          · have e2 : (xs ++ [Value.slice xa xl xc]).getD i undef = xs.getD i undef := by
              have : i < xs.length := by rw [HLen.out]; omega
              rw [List.getD_eq_getElem?_getD, List.getElem?_append_left this, ← List.getD_eq_getElem?_getD]
            rw [e2]
            exact ((HPs.out i (by omega)).below HB3.out).next ht hq')
        have HR4 := Lib.hid (show VRow w2.heap.size w4 (.slice (some ⟨g', 0, none⟩) (xs.length + 1) cap') (xs ++ [Value.slice xa xl xc]) by
          unfold VRow
          simpa using HOwn.out)
        have HB4 := Lib.hid (show Below w2.heap.size w2 w4 from (HB.out.trans (HB3.out.mono hzb)).grown hg (by simp; omega) (fun k e => (World.ownsRow.lt HR.out k e).1))
        clear hg ht hq'
        go_wp2_with fail
        go_roundw
        case rel => exact ⟨k + 1, g', xs ++ [Value.slice xa xl xc], by go_num, by omega, Lib.hid (by simp [HLen.out]), HQ4.out, Lib.hid (.inr rfl), HR4, HPs4, HB4⟩
        case measure => simp [intOf]; omega
      · have hke : k = N := by omega
        have HKe := Lib.hid hke
        clear hke
        go_wp2_with fail
        go_ret2
        have hzz := HB2.out.size
        refine ⟨HB2.out.trans (HB.out.mono hzz), .inr ⟨HG.out, _, xs, TS.map (·.L), rfl, HSer.out, by rw [HLen.out, HKe.out, HNN.out]; simp, ⟨HR.out.1, ?_⟩, fun i hi => ?_⟩⟩
        · rcases HR.out.2 with h | ⟨g, cap, cur, e1, e2, e3⟩
          · exact .inl h
          · exact .inr ⟨g, cap, cur, e1, Nat.le_trans hzz e2, e3⟩
        · rw [← HD0.out]
          exact ((HPs.out i (by rw [HKe.out, HNN.out]; simpa using hi)).mono hzz).perms
end Go.Proofs.Ytjnjhfificpbbaa
