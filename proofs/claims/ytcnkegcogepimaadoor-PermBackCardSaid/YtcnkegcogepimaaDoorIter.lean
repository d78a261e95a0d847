/- The iterator that perm.cycles hands back yields the cycles of the permutation, one after the other. -/
import Derived.Test.YtcnkegcogepimaaDoorProg
import Derived.Test.YtcnkegcogepimaaDoorBase
import Derived.Test.YtcnkegcogepimaaDoorLists
import Derived.Test.YtcnkegcogepimaaDoorCycL
import Derived.Test.YtcnkegcogepimaaDoorMul
import Derived.Test.YtcnkegcogepimaaDoorFrom
import Derived.Test.YtcnkegcogepimaaDoorRange
import Derived.Shelf.Abstract
import Derived.OwnWalkIn
import Derived.TacticsInMore
import Derived.LoopNIn
import Derived.LoopIn
namespace Go.Proofs.YtcnkegcogepimaaDoor
open Go.RowKit Go.Shelf
attribute [local go_sem] Oper.semAt_some

/-- v reads as zs wherever what lay below n lies as it lies in w -/
def SlUp (n : Nat) (w : World) (v : Value) (zs : List Int) : Prop := ∀ w' : World, (∀ b, b < n → w'.heap[b]? = w.heap[b]?) → Sl w' v zs
theorem SlUp.of_sl {w : World} {v : Value} {zs : List Int} (h : Sl w v zs) : SlUp w.heap.size w v zs := fun w' hb => by
  obtain ⟨a, cap, rfl, h⟩ := h
  refine ⟨a, cap, rfl, ?_⟩
  rcases h with h | ⟨b, off, rfl, h⟩
  · exact .inl h
  · refine .inr ⟨b, off, rfl, fun i hi => ?_⟩
    have := h i hi
    exact (World.cell?_of_block (w := w) (hb b (World.block_lt_of_cell? w _ this))).trans this

/-- what a round must keep: all below n, the box of p, and the marks' block -/
def cyKeep (n bp bm : Nat) (A B : World) : Prop := A.heap.size ≤ B.heap.size ∧ ∀ b, b < n ∨ b = bp ∨ b = bm → B.heap[b]? = A.heap[b]?
/-- what is handed to the k-th round -/
def cyItem (p : List Int) (bm : Nat) (k : Nat) (vs : Array Value) (A : World) : Prop := ∃ v, vs = #[v] ∧ Ow (bm + 1) A v ((cyc p).getD k []) ∧ bm < A.heap.size

set_option maxRecDepth 100000 in
set_option maxHeartbeats 1000000 in
theorem iter_seq (n bp : Nat) (v1 : Value) (p : List Int) (hv : validL p = true) (W : World) (hbp : Blk W bp 23 #[v1]) (hn : n ≤ bp) (hs : SlUp n W v1 p) :
    IdxSeq Tryd.prog 43 #[.pointer (some ⟨bp, 0, none⟩)] (cyc p).length (cyItem p W.heap.size) (fun b => b = W.heap.size) (cyKeep n bp W.heap.size) W := by
  intro l m J Jx hJ hY h0
  have hp7 : p.length ≤ 7 := ((validL_iff p).1 hv).2.1
  have hs0 := hs W (fun _ _ => rfl)
  obtain ⟨a, ca, rfl, _⟩ := hs0
  have hcp := hbp.cell 0
  have hcp' : W.cell? ⟨bp, 0, none⟩ = some (.slice a p.length ca) := by simpa using hcp
  have hbl : bp < W.heap.size := hbp.lt
  clear hcp
  have HV := Lib.hid hv
  have HY := Lib.hid hY
  have HJ := Lib.hid hJ
  have HS := Lib.hid hs
  clear hv hY hJ hs
  refine callsIn_of_wp Tryd.func43 rfl trivial ?_ rfl
  simp only [Tryd.ntmps43, List.size_toArray, List.length_cons, List.length_nil, Nat.reduceAdd, Nat.reduceSub, Array.replicate_succ, Array.replicate_zero, List.push_toArray, List.append_toArray, List.nil_append, List.cons_append]
  have b0 : Blk (W.alloc (.cells (mk []) 60)) W.heap.size 60 (mk []) := Blk.new _ _ _
  rw [mk_nil] at b0
  gi_wp2
  gi_loopw [10] (fun i wr => ∃ k : Nat, k ≤ p.length ∧ i = .int .i64 k ∧ J (cyTo p k).1.length wr ∧ Blk wr W.heap.size 60 (mk (cyTo p k).2) ∧ Blk wr bp 23 #[.slice a p.length ca] ∧ (∀ b, b < n → wr.heap[b]? = W.heap[b]?) ∧ W.heap.size < wr.heap.size) (fun i _ => p.length - (intOf i).toNat)
  case atStart =>
    refine ⟨0, Nat.zero_le _, rfl, HJ.out _ _ _ h0 (Turns.alloc _ _), by rw [show (cyTo p 0).2 = [] from rfl, mk_nil]; exact b0, hbp.alloc _, ?_, by simp⟩
    intro b hb
    exact Below.heap_alloc _ _ _ (by omega)
  case round =>
    clear b0
    obtain ⟨k, hk, rfl, hJk, hB, hbp2, hlow, hsz⟩ := hrel
    by_cases hlt : k < p.length
    · have hk7 : k < 7 := by omega
      have hbpc : wr.cell? ⟨bp, 0, none⟩ = some (.slice a p.length ca) := by simpa using hbp2.cell 0
      have hmc := hB.cell k
      rw [mk_get _ _ hk7] at hmc
      have HB := Lib.hid hB
      have HL := Lib.hid hlow
      have HP2 := Lib.hid hbp2
      have HJk := Lib.hid hJk
      clear hB hlow hbp2 hJk
      by_cases hm : (k : Int) ∈ (cyTo p k).2
      · rw [decide_eq_true hm] at hmc
        have e := cyTo_old hm
        have HE := Lib.hid e
        clear hm e
        gi_wp2
        go_roundw
        case rel => exact ⟨k + 1, by omega, by go_num, by rw [HE.out]; exact HJk.out, by rw [HE.out]; exact HB.out, HP2.out, HL.out, hsz⟩
        case measure => simp [intOf]; omega
      · rw [decide_eq_false hm] at hmc
        have e := cyTo_new hm
        have HE := Lib.hid e
        have HM := Lib.hid hm
        clear hm e
        have hpt : pt p (k : Int) := ⟨by omega, by omega⟩
        have hper : (cyL p k).length ≤ 7 := by have := (per_spec HV.out hpt).1; rw [length_cyL]; omega
        have HPT := Lib.hid hpt
        clear hpt
        gi_wp2_with (refine ⟨trivial, ?_⟩; gi_at_call 44; refine (callsIn_wide.2 (from_any _ p k _ (HS.out _ HL.out) HV.out hlt)).mono ?_; rintro e w1 ⟨v, rfl, hO, hb⟩; have HO := Lib.hid hO; clear hO; obtain ⟨a2, c2, rfl, hcs⟩ := HO.out.sl; have HC := Lib.hid hcs; clear hcs)
        obtain ⟨wo, rfl⟩ : ∃ wo : World, wo = wr := ⟨_, rfl⟩
        have hsz1 : wo.heap.size ≤ w1.heap.size := hb.size
        have hB1 := HB.out.below hb
        gi_loopw [21] (fun i w2 => ∃ j : Nat, j ≤ (cyL p k).length ∧ i = .int .i64 j ∧ Blk w2 W.heap.size 60 (mk ((cyTo p k).2 ++ (cyL p k).take j)) ∧ Turns (fun b => b = W.heap.size) w1 w2) (fun i _ => (cyL p k).length - (intOf i).toNat)
        case atStart => exact ⟨0, Nat.zero_le _, rfl, by rw [List.take_zero, List.append_nil]; exact hB1, Turns.refl _ _⟩
        case round =>
          clear hB1
          obtain ⟨j, hj, rfl, hB2, ht⟩ := hrel
          by_cases hjl : j < (cyL p k).length
          · rcases HC.out with h | ⟨b2, o2, rfl, cs⟩
            · simp [h] at hjl
            obtain ⟨hb2, hb2'⟩ := HO.out.lt b2 rfl
            obtain ⟨y, hy0⟩ : ∃ y, y = (cyL p k).getD j 0 := ⟨_, rfl⟩
            have hyp : pt p y := cyL_pt HV.out HPT.out y (by rw [hy0]; simp [hjl])
            obtain ⟨y0, y1⟩ := hyp
            have g1 : wr.cell? ⟨b2, o2 + j, none⟩ = some (.int .i64 y) := by
              rw [hy0]
              exact (World.cell?_of_block (w := w1) (ht.block b2 hb2' (by omega))).trans (cs j hjl)
            obtain ⟨x, rfl⟩ := Int.eq_ofNat_of_zero_le y0
            have HY0 := Lib.hid hy0
            have hx7 : x < 7 := by omega
            have hc := hB2.cell x
            rw [mk_get _ _ hx7] at hc
            have hc' : ∃ u, wr.cell? ⟨W.heap.size, x, none⟩ = some u := ⟨_, hc⟩
            obtain ⟨u, hcu⟩ := hc'
            have hf := hB2.free x
            have HB2 := Lib.hid hB2
            clear cs hy0 hB2 hc
            gi_wp2
            go_roundw
            case rel =>
              refine ⟨j + 1, by omega, by go_num, ?_, ht.setCell _ _ _ rfl⟩
              have := HB2.out.set x (.bool true)
              rw [mk_set] at this
              rw [mk_congr (t := ((x : Int) :: ((cyTo p k).2 ++ (cyL p k).take j)))]
              · exact this
              · intro z
                rw [List.take_succ_eq_append_getElem hjl]
                have e := HY0.out
                simp [hjl] at e
                simp [← e]
                constructor
                · rintro (h | h | h) <;> simp [h]
                · rintro (h | h | h) <;> simp [h]
            case measure => simp [intOf]; omega
          · have hjl' : (cyL p k).length ≤ j := by omega
            have hje : j = (cyL p k).length := by omega
            have hB3 : Blk wr W.heap.size 60 (mk (cyTo p (k + 1)).2) := by
              rw [hje, List.take_of_length_le (Nat.le_refl _)] at hB2
              rw [HE.out]; exact hB2
            have HB3 := Lib.hid hB3
            have hbelow : Turns (fun b => b = W.heap.size) wo wr := (Turns.of_below hb).trans ht
            have hat := cyc_at hlt HM.out
            obtain ⟨hat1, hat2⟩ := hat
            have hJ2 := HJ.out _ _ _ HJk.out hbelow
            have hsz2 : W.heap.size < wr.heap.size := by have := hbelow.size; omega
            have hO2 : Ow (W.heap.size + 1) wr _ (cyL p k) := Ow.turns (Ow.mono HO.out (by omega)) ht (fun r e => by have := (HO.out.lt r e).1; omega)
            have hit : cyItem p W.heap.size (cyTo p k).1.length #[_] wr := ⟨_, rfl, by rw [hat2]; exact hO2, hsz2⟩
            obtain ⟨fn, tmps, assign, body, hy, hR⟩ := HY.out _ _ _ hat1 hJ2 hit
            have HR := Lib.hid hR
            have HBW := Lib.hid hbelow
            clear hjl hje hB2 hbelow hat2 hJ2 hO2 hit hR hB3
            have hbp3 : Blk wr bp 23 #[.slice a p.length ca] := HP2.out.turns HBW.out (by omega)
            have hlow3 : ∀ b, b < n → wr.heap[b]? = W.heap[b]? := fun b hb => (HBW.out.block b (by omega) (by omega)).trans (HL.out b hb)
            have HP3 := Lib.hid hbp3
            have HL3 := Lib.hid hlow3
            clear hbp3 hlow3
            gi_wp2
            refine HR.out.mono ?_
            rintro e W3 (⟨rfl, hJ3, hk3⟩ | ⟨rfl, hJx3⟩)
            · have HJ3 := Lib.hid hJ3
              have HK3 := Lib.hid hk3
              clear hJ3 hk3
              gi_wp2
              go_roundw
              case rel =>
                refine ⟨k + 1, by omega, by go_num, ?_, ?_, ?_, ?_, ?_⟩
                · rw [HE.out]; simpa using HJ3.out
                · exact (HK3.out.2 _ (.inr (.inr rfl))).trans HB3.out
                · exact (HK3.out.2 _ (.inr (.inl rfl))).trans HP3.out
                · exact fun b hb => (HK3.out.2 b (.inl hb)).trans (HL3.out b hb)
                · have := HK3.out.1; omega
              case measure => simp [intOf]; omega
            · have HJx := Lib.hid hJx3
              clear hJx3
              gi_wp2
              refine bodyPost_ret (results_none rfl _ _ _) rfl ?_
              exact ⟨⟨_, rfl⟩, .inr ⟨_, hat1, HJx.out⟩⟩
    · have hke : k = p.length := by omega
      have hlt' : p.length ≤ k := by omega
      rw [hke] at hJk
      have HJk := Lib.hid hJk
      clear hJk hke hB hbp2 hlow
      gi_wp2
      go_end0
      exact ⟨⟨_, rfl⟩, .inl HJk.out⟩

theorem SlUp.of_below {n : Nat} {w W : World} {v : Value} {zs : List Int} (h : Sl w v zs) (hn : n = w.heap.size) (hb : Below n w W) : SlUp n W v zs := fun w' hw => by
  subst hn
  exact SlUp.of_sl h w' (fun b hlt => (hw b hlt).trans (hb.block b hlt))

/-- perm.cycles boxes its argument and hands back the iterator. -/
theorem cycles_any (a : Option Addr) (n c : Nat) (w : World) :
    Calls Tryd.prog 38 #[.slice a n c] w fun e w' => e = .returned (.func (.func 43) #[] #[.pointer (some ⟨w.heap.size, 0, none⟩)]) ∧ w' = w.alloc (.cells #[.slice a n c] 23) := by
  go_enter Tryd.func38, Tryd.ntmps38
  go_wp2
  go_ret
  exact ⟨rfl, rfl⟩

theorem cyKeep.trans {n bp bm : Nat} {A B C : World} (h : cyKeep n bp bm A B) (k : cyKeep n bp bm B C) : cyKeep n bp bm A C :=
  ⟨Nat.le_trans h.1 k.1, fun b hb => (k.2 b hb).trans (h.2 b hb)⟩
theorem cyKeep.putObj {n bp bm l : Nat} (W : World) (o : Obj) (h1 : n ≤ l) (h2 : bp ≠ l) (h3 : bm ≠ l) : cyKeep n bp bm W (W.putObj l o) :=
  ⟨by simp [World.putObj], fun b hb => World.putObj_heap_other (by omega)⟩
theorem cyKeep.refl {n bp bm : Nat} (A : World) : cyKeep n bp bm A A := ⟨Nat.le_refl _, fun _ _ => rfl⟩
theorem cyKeep.setCell {n bp bm : Nat} {A B : World} (h : cyKeep n bp bm A B) (g i : Nat) (v : Value) (h1 : n ≤ g) (h2 : bp ≠ g) (h3 : bm ≠ g) : cyKeep n bp bm A (B.setCell ⟨g, i, none⟩ v) :=
  h.trans ⟨by simp, fun b hb => Below.heap_setCell B ⟨g, i, none⟩ v b (by show b ≠ g; omega)⟩
theorem cyItem.putObj {p : List Int} {bm l k : Nat} {vs : Array Value} {A : World} (o : Obj) (h : cyItem p bm k vs A) (hl : l < bm) : cyItem p bm k vs (A.putObj l o) := by
  obtain ⟨v, rfl, hO, hs⟩ := h
  refine ⟨v, rfl, hO.turns (Turns.putObj (priv := fun b => b = l) A l o rfl) ?_, by simp [World.putObj]; exact hs⟩
  intro r e er
  have := (hO.lt r e).1
  omega

end Go.Proofs.YtcnkegcogepimaaDoor
