/- The reference's Cycles, by its meaning. -/
import Derived.Test.YtcnkegcogepimaaDoorProg
import Derived.Test.YtcnkegcogepimaaDoorBase
import Derived.Test.YtcnkegcogepimaaDoorCycL
import Derived.Test.YtcnkegcogepimaaDoorMul
import Derived.Test.YtcnkegcogepimaaDoorCycs
import Derived.Test.YtcnkegcogepimaaDoorCycs2
import Derived.Maps.AppendAt
import Derived.Deep.QuietTactic
import Derived.BigQuiet
namespace Go.Proofs.YtcnkegcogepimaaDoor
open Go.RowKit

theorem infoBool : (Tryd.prog.info? 4).map (fun i => (i.zero, i.size, i.bytes)) = some (some (.bool false), 1, 1) := by kernel_rfl

/-- n marks: which of the points below n are in s -/
def mkb (n : Nat) (s : List Int) : Array Value := Array.ofFn (n := n) fun i => .bool (decide (((i : Nat) : Int) ∈ s))
theorem mkb_get (n : Nat) (s : List Int) (i : Nat) (h : i < n) : (mkb n s)[i]? = some (.bool (decide ((i : Int) ∈ s))) := by simp [mkb, h]
theorem mkb_get_none (n : Nat) (s : List Int) (i : Nat) (h : n ≤ i) : (mkb n s)[i]? = none := by rw [Array.getElem?_eq_none_iff]; simp [mkb, h]
theorem mkb_set (n : Nat) (s : List Int) (i : Nat) : (mkb n s).setIfInBounds i (.bool true) = mkb n (s ++ [(i : Int)]) := by
  apply Array.ext_getElem?
  intro j
  rw [Array.getElem?_setIfInBounds]
  by_cases h7 : j < n
  · rw [mkb_get _ _ j h7, mkb_get _ _ j h7]
    by_cases e : i = j
    · subst e; simp [mkb, h7]
    · have : ¬ ((j : Int) = (i : Int)) := by omega
      simp [e, this]
  · rw [mkb_get_none _ _ j (by omega), mkb_get_none _ _ j (by omega)]
    by_cases e : i = j
    · subst e; simp [mkb, h7]
    · simp [e]
theorem mkb_nil (n : Nat) : (List.replicate n (Value.bool false)).toArray = mkb n [] := by
  apply Array.ext_getElem?
  intro j
  by_cases h : j < n
  · rw [mkb_get _ _ j h]; simp [h]
  · rw [mkb_get_none _ _ j (by omega)]; simp; omega

theorem cyL_closed {p : List Int} (h : validL p = true) {x : Int} (hx : pt p x) {y : Int} (hy : y ∈ cyL p x) : im p y ∈ cyL p x := by
  obtain ⟨i, hi, rfl⟩ := List.mem_map.1 hy
  obtain ⟨h1, h2, _⟩ := per_spec h hx
  have hi := List.mem_range.1 hi
  by_cases e : i + 1 < per p x
  · exact List.mem_map.2 ⟨i + 1, List.mem_range.2 e, rfl⟩
  · have e2 : i + 1 = per p x := by omega
    refine List.mem_map.2 ⟨0, List.mem_range.2 (by omega), ?_⟩
    show x = sq p x (i + 1)
    rw [e2, h2]
theorem cyTo_closed {p : List Int} (h : validL p = true) (k : Nat) : k ≤ p.length → ∀ y, y ∈ (cyTo p k).2 → im p y ∈ (cyTo p k).2 := by
  induction k with
  | zero => intro _ y hy; simp [cyTo] at hy
  | succ k ih =>
    intro hk y hy
    by_cases hm : (k : Int) ∈ (cyTo p k).2
    · rw [cyTo_old hm] at hy ⊢
      exact ih (by omega) y hy
    · rw [cyTo_new hm] at hy ⊢
      rcases List.mem_append.1 hy with hy | hy
      · exact List.mem_append.2 (.inl (ih (by omega) y hy))
      · exact List.mem_append.2 (.inr (cyL_closed h ⟨by omega, by omega⟩ hy))
theorem cyTo_sq {p : List Int} (h : validL p = true) {k : Nat} (hk : k ≤ p.length) (x : Int) (hx : x ∈ (cyTo p k).2) : ∀ j, sq p x j ∈ (cyTo p k).2 := by
  intro j
  induction j with
  | zero => exact hx
  | succ j ih => exact cyTo_closed h k hk _ ih
/-- before its cycle is closed, no point of a new cycle was seen -/
theorem fresh {p : List Int} (h : validL p = true) {k : Nat} (hk : k < p.length) (hn : (k : Int) ∉ (cyTo p k).2) {j : Nat} (hj : j < per p k) : sq p k j ∉ (cyTo p k).2 ++ (cyL p k).take j := by
  have hpt : pt p (k : Int) := ⟨by omega, by omega⟩
  obtain ⟨h1, h2, h3⟩ := per_spec h hpt
  intro hm
  rcases List.mem_append.1 hm with hm | hm
  · have := cyTo_sq h (by omega) _ hm (per p k - j)
    rw [← sq_add, show j + (per p k - j) = per p k from by omega, h2] at this
    exact hn this
  · obtain ⟨i, hi, e⟩ := List.mem_take_iff_getElem.1 hm
    have hi' : i < j := by omega
    have e2 : sq p k i = sq p k j := by rw [← e]; simp [cyL]
    have := sq_back h hpt (j - i) i (by rw [show i + (j - i) = j from by omega]; exact e2.symm)
    exact h3 (j - i) (by omega) (by omega) this
theorem head_cyL (p : List Int) (k : Nat) {j : Nat} (hj : 1 ≤ j) (hl : j ≤ per p k) : (k : Int) ∈ (cyL p k).take j := by
  have : (cyL p k).take 1 = [(k : Int)] := by rw [cyL_take_succ p k 0 (by omega)]; rfl
  have h2 : (k : Int) ∈ (cyL p k).take 1 := by rw [this]; simp
  exact (List.take_subset_take_left (cyL p k) hj) h2

/-- the cycles of at least two points among those that begin before k -/
def lgTo (p : List Int) (k : Nat) : List (List Int) := (cyTo p k).1.filter fun c => decide (1 < c.length)
theorem lgTo_old {p : List Int} {k : Nat} (h : (k : Int) ∈ (cyTo p k).2) : lgTo p (k + 1) = lgTo p k := by unfold lgTo; rw [cyTo_old h]
theorem lgTo_new {p : List Int} {k : Nat} (h : (k : Int) ∉ (cyTo p k).2) : lgTo p (k + 1) = if 1 < (cyL p k).length then lgTo p k ++ [cyL p k] else lgTo p k := by
  unfold lgTo
  rw [cyTo_new h, List.filter_append]
  by_cases e : 1 < (cyL p k).length <;> simp [e]
theorem lgTo_le (p : List Int) (k : Nat) : (lgTo p k).length ≤ k := Nat.le_trans (List.length_filter_le _ _) (cyTo_count p k)

theorem cell_turned {priv : Nat → Prop} {A C : World} (ht : Turns priv A C) {b i : Nat} (hb : b < A.heap.size) (hp : ¬ priv b) : C.cell? ⟨b, i, none⟩ = A.cell? ⟨b, i, none⟩ := World.cell?_of_block (w := A) (ht.block b hb hp)

/-- one block only has turned -/
theorem turns_grown {b0 : Nat} {A C D : World} {v : Value} {tmp : Obj} (ht : Turns (fun b => b = b0) A C) (hg : (C.alloc tmp).grownBy D v.ownBlock) (hv : ∀ r, v.ownBlock = some r → A.heap.size ≤ r) : Turns (fun b => b = b0) A D := by
  have hz := hg.size
  simp at hz
  exact ⟨hg.os.trans ht.os, hg.tape.trans ht.tape, hg.output.trans ht.output, by have := ht.size; omega, fun k hk hp => (hg.block k (by have := ht.size; simp; omega) (fun e => by have := hv k e.symm; omega)).trans ((Below.heap_alloc C tmp k (by have := ht.size; omega)).trans (ht.block k hk hp))⟩

set_option maxHeartbeats 1000000 in
theorem refcyc_any (v1 : Value) (p : List Int) (w : World) (h1 : Sl w v1 p) (hv : validL p = true) :
    Calls Tryd.prog 21 #[v1] w fun e w' => ∃ r, e = .returned r ∧ Ows w.heap.size w' r (longL p) ∧ Below w.heap.size w w' := by
  have hp7 : p.length ≤ 7 := ((validL_iff p).1 hv).2.1
  obtain ⟨a, ca, rfl, h1⟩ := h1
  obtain ⟨ib, hib, hb0, hb1, hb2⟩ := info_parts infoBool
  obtain ⟨i0, hi, hz0, hz1, hz2⟩ := info_parts infoInt
  obtain ⟨i1, hq, hq0, hq1, hq2⟩ := info_parts infoInts
  have HV := Lib.hid hv
  have H1 := Lib.hid h1
  clear hv h1
  go_enter Tryd.func21, Tryd.ntmps21
  go_wp2_with (at_make; refine wpList_make_full _ rfl _ _ 73 rfl w.heap.size 4 ib (.bool false) 1 Tryd.underlying73 hib hb0 hb1 _ _ _ _ p.length rfl rfl rfl rfl (by rw [hb2]; omega) (by unfold maxLen; omega) (Nat.le_refl _) ?_; intro w1 hown hgrow)
  have hB : Blk w1 w.heap.size 4 (mkb p.length []) := by
    have := blk_of_owns hown
    rw [Nat.mul_one, show (Value.bool false).cells = #[Value.bool false] from rfl, toList_madeCells_one, mkb_nil] at this
    exact this
  have HB := Lib.hid hB
  have hb := Below.of_grown hgrow
  clear hown hgrow hB
  go_wp2
  go_loopw [3, 5, 6, 7] (fun r i _ _ wr => ∃ k : Nat, k ≤ p.length ∧ i = .int .i64 k ∧ Hid (Blk wr w.heap.size 4 (mkb p.length (cyTo p k).2)) ∧ Hid (Ows (w.heap.size + 1) wr r (lgTo p k)) ∧ Below w.heap.size w wr) (fun _ i _ _ _ => p.length - (intOf i).toNat)
  case atStart => exact ⟨0, Nat.zero_le _, rfl, HB, Lib.hid (Ows.nil _ _), hb⟩
  case round =>
    clear HB hb
    obtain ⟨k, hk, rfl, HB, HO, hb⟩ := hrel
    have hwl := HB.out.lt
    by_cases hlt : k < p.length
    · rcases H1.out with h1 | ⟨b1, o1, e1, c1⟩
      · simp [h1] at hlt
      subst e1
      have hb1 : b1 < w.heap.size := World.block_lt_of_cell? w _ (c1 0 (by omega))
      have C1 := Lib.hid c1
      clear c1
      have hpt : pt p (k : Int) := ⟨by omega, by omega⟩
      have hper1 : 1 ≤ per p k := by unfold per; omega
      have hper : per p k ≤ p.length := (per_spec HV.out hpt).1
      have HP := Lib.hid hpt
      clear hpt
      obtain ⟨wo, rfl⟩ : ∃ wo, wo = wr := ⟨wr, rfl⟩
      go_wp2
      go_loopw [6, 7] (fun c x wi => ∃ j : Nat, j ≤ per p k ∧ x = .int .i64 (sq p k j) ∧ Hid ((k : Int) ∈ (cyTo p k).2 → j = 0) ∧ Hid (Ow wo.heap.size wi c ((cyL p k).take j)) ∧ Hid (Blk wi w.heap.size 4 (mkb p.length ((cyTo p k).2 ++ (cyL p k).take j))) ∧ Hid (Turns (fun b => b = w.heap.size) wo wi)) (fun c _ _ => per p k - lenOf c)
      case atStart => exact ⟨0, Nat.zero_le _, rfl, Lib.hid (fun _ => rfl), Lib.hid (Ow.nil _ _), by rw [List.take_zero, List.append_nil]; exact HB, Lib.hid (Turns.refl _ _)⟩
      case round =>
        obtain ⟨j, hj, rfl, h0, hC, hM, hT⟩ := hrel
        have hls : wo.heap.size ≤ wr.heap.size := hT.out.size
        obtain ⟨y0, y1⟩ := sq_pt HV.out HP.out j
        obtain ⟨y, hy⟩ := Int.eq_ofNat_of_zero_le y0
        have hyl : y < p.length := by omega
        have hc : wr.cell? ⟨w.heap.size, y, none⟩ = some (.bool (decide ((y : Int) ∈ (cyTo p k).2 ++ (cyL p k).take j))) := by rw [hM.out.cell y, mkb_get _ _ y hyl]
        have hf := hM.out.free y
        obtain ⟨L, hL⟩ : ∃ L, L = (cyL p k).take j := ⟨_, rfl⟩
        have hLl : L.length = j := by rw [hL, List.length_take, length_cyL, Nat.min_eq_left hj]
        have hCL := hC.out
        rw [← hL] at hCL
        have hlen0 : lenOf u6 = j := by
          obtain ⟨a2, c2, e, _⟩ := hCL.sl
          rw [e, hLl]
          rfl
        have HY := Lib.hid hy
        have HL := Lib.hid hL
        have HLl := Lib.hid hLl
        have HL0 := Lib.hid hlen0
        rw [hy]
        clear y0 y1 hL hlen0 hy
        by_cases hin : (y : Int) ∈ (cyTo p k).2 ++ (cyL p k).take j
        · rw [decide_eq_true hin] at hc
          by_cases hk2 : (k : Int) ∈ (cyTo p k).2
          · have hj0 : j = 0 := h0.out hk2
            have hLn : L = [] := List.length_eq_zero_iff.1 (by omega)
            have HT := Lib.hid (lgTo_old hk2)
            have HS := Lib.hid (cyTo_old hk2)
            subst hLn
            obtain ⟨a2, c2, e, _⟩ := hCL.sl
            simp only [List.length_nil] at e
            subst e
            have HM : Hid (Blk wr w.heap.size 4 (mkb p.length (cyTo p (k + 1)).2)) := by
              have := hM.out
              rw [← HL.out, List.append_nil] at this
              exact Lib.hid (by rw [HS.out]; exact this)
            have HO3 : Hid (Ows (w.heap.size + 1) wr u3 (lgTo p (k + 1))) := Lib.hid (by rw [HT.out]; exact HO.out.turns hT.out (fun b hb => by omega))
            have HB3 : Hid (Below w.heap.size w wr) := Lib.hid (below_turns hb hT.out (fun b hb => by omega) (Nat.le_refl _))
            clear hCL hin hk2 hj0 hb
            go_wp2
            go_roundw
            case rel => exact ⟨k + 1, by omega, by go_num, HM, HO3, HB3.out⟩
            case measure => simp [intOf]; omega
          · have hjp : j = per p k := by
              by_cases e : j < per p k
              · exact absurd (by rw [← HY.out] at hin; exact hin) (fresh HV.out hlt hk2 e)
              · omega
            have hLc : L = cyL p k := by rw [HL.out, hjp, List.take_of_length_le (by rw [length_cyL]; exact Nat.le_refl _)]
            have HS := Lib.hid (cyTo_new hk2)
            have hT2 := lgTo_new hk2
            rw [← hLc] at hT2
            have HM : Hid (Blk wr w.heap.size 4 (mkb p.length (cyTo p (k + 1)).2)) := by
              have := hM.out
              rw [← HL.out, hLc] at this
              exact Lib.hid (by rw [HS.out]; exact this)
            have HO3 := HO.out.turns hT.out (fun b hb => by omega)
            have hb3 := below_turns hb hT.out (fun b hb => by omega) (Nat.le_refl _)
            have hll := lgTo_le p k
            have HLc := Lib.hid hLc
            have HC2 := Lib.hid (hCL.mono (B' := w.heap.size + 1) (by omega))
            obtain ⟨a2, c2, e, _⟩ := hCL.sl
            subst e
            clear hCL hin hk2 hjp hLc hLl
            by_cases hlong : 1 < L.length
            · rw [if_pos hlong] at hT2
              have HT2 := Lib.hid hT2
              obtain ⟨ws, s1, s2, s3⟩ := HO3
              have S3 := Lib.hid s3
              have S1 := Lib.hid s1
              have hwl : ws.length ≤ 7 := by omega
              clear s3 s1 hT2
              go_wp2_with (at_builtin; go_loud (refine wpList_append_own _ rfl _ _ 44 rfl (w.heap.size + 1) 22 i1 (.slice none 0 0) 1 24 Tryd.underlying44 hq hq0 hq1 hq2 rfl (by decide) _ _ _ rfl (s2.alloc _) ⟨wr.heap.size, 0, none⟩ 1 1 [.slice a2 L.length c2] rfl rfl (cell_one_new _ _ _) (by simp [Value.oneCell']) (by unfold maxLen; omega) (by omega) (by simp; omega) ?_; intro v' w3 hown' hgrow _))
              have HO4 : Hid (Ows (w.heap.size + 1) w3 v' (lgTo p (k + 1))) := Lib.hid (by rw [HT2.out]; exact Ows.push S1.out s2 S3.out HC2.out hown' hgrow)
              have HB4 : Hid (Below w.heap.size w w3) := Lib.hid ((hb3.alloc hb3.size _).grown hgrow (by have := hb3.size; simp; omega) (fun r e => by have := (s2.lt r e).1; omega))
              have HM4 : Hid (Blk w3 w.heap.size 4 (mkb p.length (cyTo p (k + 1)).2)) := Lib.hid ((hgrow.block w.heap.size (by simp; omega) (fun e => by have := (s2.lt _ e.symm).1; omega)).trans (HM.out.alloc _))
              clear hown' hgrow s2 hb3
              go_wp2
              go_roundw
              case rel => exact ⟨k + 1, by omega, by go_num, HM4, HO4, HB4.out⟩
              case measure => simp [intOf]; omega
            · rw [if_neg hlong] at hT2
              have HO4 : Hid (Ows (w.heap.size + 1) wr u3 (lgTo p (k + 1))) := Lib.hid (by rw [hT2]; exact HO3)
              clear hT2 HO3
              go_wp2
              go_roundw
              case rel => exact ⟨k + 1, by omega, by go_num, HM, HO4, hb3⟩
              case measure => simp [intOf]; omega
        · rw [decide_eq_false hin] at hc
          have hjp : j < per p k := by
            by_cases e : j < per p k
            · exact e
            · have e2 : j = per p k := by omega
              refine absurd (List.mem_append.2 (.inr ?_)) hin
              have hx : (y : Int) = k := by rw [← HY.out, e2]; exact (per_spec HV.out HP.out).2.1
              rw [hx]
              exact head_cyL p k (by omega) hj
          have hk2 : (k : Int) ∉ (cyTo p k).2 := fun h => by
            have e := h0.out h
            have hx : (y : Int) = k := by rw [← HY.out, e]; rfl
            exact hin (List.mem_append.2 (.inl (by rw [hx]; exact h)))
          have HK2 := Lib.hid hk2
          have HC2 : Ow wo.heap.size (wr.setCell ⟨w.heap.size, y, none⟩ (.bool true)) u6 L := hCL.turns (priv := fun b => b = w.heap.size) ((Turns.refl _ _).setCell _ _ _ rfl) (fun r e hr => by have := (hCL.lt r e).1; omega)
          unfold Ow at HC2
          have HM2 : Hid (Blk (wr.setCell ⟨w.heap.size, y, none⟩ (.bool true)) w.heap.size 4 (mkb p.length ((cyTo p k).2 ++ (cyL p k).take (j + 1)))) := by
            have := hM.out.set y (.bool true)
            rw [mkb_set, List.append_assoc, ← HY.out, ← cyL_take_succ p k j hjp] at this
            exact Lib.hid this
          have hval : p.getD y 0 = sq p k (j + 1) := by
            show _ = im p (sq p k j)
            rw [HY.out]; rfl
          have HVal := Lib.hid hval
          have hsz : (wr.setCell ⟨w.heap.size, y, none⟩ (.bool true)).heap.size = wr.heap.size := by simp
          have hnew := cell_one_new (wr.setCell ⟨w.heap.size, y, none⟩ (.bool true)) (.int .i64 y) 3
          rw [hsz] at hnew
          have HNew := Lib.hid hnew
          clear hnew
          have HT2 := Lib.hid (hT.out.setCell w.heap.size y (.bool true) rfl)
          clear hin hk2 hCL hval
          go_wp2_with (at_builtin; go_loud (refine wpList_append_own _ rfl _ _ 22 rfl wo.heap.size 3 i0 (.int .i64 0) 1 8 Tryd.underlying22 hi hz0 hz1 hz2 rfl (by decide) _ _ _ rfl (HC2.alloc _) ⟨wr.heap.size, 0, none⟩ 1 1 [.int .i64 y] rfl rfl HNew.out (by simp [Value.oneCell']) (by unfold maxLen; omega) (by omega) (by simp; omega) ?_; intro v' w2 hown' hgrow _; have hT3 : Turns (fun b => b = w.heap.size) wo w2 := turns_grown HT2.out hgrow (fun r e => (HC2.lt r e).1); have g2 : w2.cell? ⟨b1, o1 + y, none⟩ = some (.int .i64 (sq p k (j + 1))) := (cell_turned hT3 (by omega) (by omega)).trans ((hb.cell (p := ⟨b1, o1 + y, none⟩) hb1).trans (by rw [C1.out y hyl, HVal.out]))))
          have hO2 : Ow wo.heap.size w2 v' ((cyL p k).take (j + 1)) := by
            rw [cyL_take_succ p k j hjp, HY.out, ← HL.out]
            exact Ow.push hown'
          have HO2 := Lib.hid hO2
          have hlen : lenOf v' = j + 1 := by
            obtain ⟨a2, c2, e, _⟩ := hO2.sl
            rw [e, List.length_take, length_cyL, Nat.min_eq_left hjp]
            rfl
          have HL1 := Lib.hid hlen
          have HT3 := Lib.hid hT3
          have HM3 : Hid (Blk w2 w.heap.size 4 (mkb p.length ((cyTo p k).2 ++ (cyL p k).take (j + 1)))) := Lib.hid ((hgrow.block w.heap.size (by simp; omega) (fun e => by have := (HC2.lt _ e.symm).1; omega)).trans (HM2.out.alloc _))
          clear hO2 hlen hown' hgrow HC2 hT3
          go_wp2
          go_roundw
          case rel => exact ⟨j + 1, hjp, rfl, Lib.hid (fun h => absurd h HK2.out), HO2, HM3, HT3⟩
          case measure =>
            have e1 := HL1.out
            have e0 := HL0.out
            simp [e1, e0]
            omega
    · have hke : k = p.length := by omega
      have hlt' : p.length ≤ k := by omega
      have hO := HO.out
      rw [hke, show lgTo p p.length = longL p from rfl] at hO
      have HO2 := Lib.hid hO
      clear hO hke
      go_wp2
      go_ret
      exact ⟨_, rfl, HO2.out.mono (by omega), hb⟩
end Go.Proofs.YtcnkegcogepimaaDoor
