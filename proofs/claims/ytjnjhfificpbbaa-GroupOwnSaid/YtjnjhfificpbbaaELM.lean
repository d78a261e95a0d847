/- package group's elements: arrays of seven images. | Plain mathematics: permutations of seven points as elements, the packing of fewer points, conjugation. | A region that draws its order: operations that are quiet in a class of worlds, and one operation that waits for all of them and may write. | package group's pack, unpack and commutator. | A region that draws its order: a head in which loads are taken first while their cells stand, and a tail in one forced order that may overwrite them. -/
import Derived.Test.YtjnjhfificpbbaaProg
import Derived.Test.YtjnjhfificpbbaaBase
import Derived.Test.YtjnjhfificpbbaaLists
import Derived.Test.YtjnjhfificpbbaaAlg
import Derived.Test.YtjnjhfificpbbaaMul
import Derived.Laws.Rows
import Derived.Laws.Tables
import Derived.Deep.Quiet
import Derived.Lib.QuietBelow
import Derived.Tactics
import Derived.Below
import Derived.WalkKit
import Derived.Deep.RegionLaw
import Derived.StillTailTactics
import Derived.OrdersHeld
import Derived.StillTail
namespace Go.Proofs.Ytjnjhfificpbbaa
open Go.RowKit

/-- the cells of an array of small numbers -/
def u8s (l : List Int) : Array Value := (l.map (Value.int .u8)).toArray
theorem u8s_get (l : List Int) (i : Nat) (h : i < l.length) : (u8s l)[i]? = some (.int .u8 (l.getD i 0)) := by simp [u8s, h]
theorem u8s_set (l : List Int) (i : Nat) (x : Int) : (u8s l).setIfInBounds i (.int .u8 x) = u8s (l.set i x) := by simp [u8s, List.map_set]
theorem size_u8s (l : List Int) : (u8s l).size = l.length := by simp [u8s]
theorem u8s_zero : u8s (List.replicate 7 0) = #[.int .u8 0, .int .u8 0, .int .u8 0, .int .u8 0, .int .u8 0, .int .u8 0, .int .u8 0] := rfl
theorem u8s_one (l : List Int) : (u8s l).all (·.oneCell') = true := by
  rw [Array.all_eq_true]
  intro i hi
  simp [u8s, Value.oneCell']
theorem infoElem : (Try.prog.info? 78).map (·.size) = some 7 := by kernel_rfl
theorem infoElem' {l : List Int} (h : l.length = 7) : (Try.prog.info? 78).map (·.size) = some (u8s l).size := by rw [size_u8s, h]; exact infoElem

/-- the result of a function that hands back an array -/
theorem res_elem {fn : Func} {p : Tmp} (h : fn.results = #[.cell p 78]) (tmps : Array Value) (W : World) (b : Nat) (cs : Array Value) (hp : tmps.getD p undef = .pointer (some ⟨b, 0, none⟩)) (hb : Blk W b 78 cs) (hs : (Try.prog.info? 78).map (·.size) = some cs.size) :
    (results fn tmps).run Try.prog W = .ok (.agg cs) W := results_cell_row h tmps W b 78 cs (0, 0) _ hp hb Try.underlying78 rfl hs

theorem Blk.setRow {w : World} {b : Nat} {t : TypeId} {cs : Array Value} (h : Blk w b t cs) (ds : Array Value) : Blk (w.setRow b ds) b t ds := setRow_heap w b cs ds t (0, 0) h
theorem below_row {n : Nat} {a w : World} (h : Below n a w) (b : Nat) (cs : Array Value) (hb : n ≤ b) : Below n a (w.setRow b cs) :=
  ⟨h.os, h.tape, h.output, by rw [size_setRow]; exact h.size, fun k hk => (setRow_other w b k cs (by omega)).trans (h.block k hk)⟩
/-- seven numbers from 0 to 6 -/
def E7 (l : List Int) : Prop := l.length = 7 ∧ ∀ k, k < 7 → 0 ≤ l.getD k 0 ∧ l.getD k 0 < 7
theorem E7_valid {l : List Int} (h : validL l = true) (h7 : l.length = 7) : E7 l := ⟨h7, fun k hk => by
  have := inR_of_valid h k (by omega)
  rw [h7] at this
  exact this⟩
theorem getD_in {l : List Int} (h : E7 l) {x : Int} (h0 : 0 ≤ x) (h1 : x < 7) : ∃ n : Nat, n < 7 ∧ x = n ∧ 0 ≤ l.getD n 0 ∧ l.getD n 0 < 7 := by
  obtain ⟨n, rfl⟩ := Int.eq_ofNat_of_zero_le h0
  exact ⟨n, by omega, rfl, h.2 n (by omega)⟩

theorem fill7 {L : List Int} (hL : L.length = 7) {k : Nat} (hk : k < 7) {x : Int} (hx : x = L.getD k 0) : (L.take k ++ List.replicate (7 - k) 0).set k x = L.take (k + 1) ++ List.replicate (7 - (k + 1)) 0 := by
  have := fill_set L k (by omega) x hx
  rwa [hL] at this

set_option maxRecDepth 100000 in
set_option maxHeartbeats 1000000 in
theorem neutral_any (w : World) :
    Calls Try.prog 89 #[] w fun e w' => e = .returned (.agg (u8s (idL 7))) ∧ Below w.heap.size w w' := by
  have hE := Blk.new (w.alloc (.cells #[.int .u8 0, .int .u8 0, .int .u8 0, .int .u8 0, .int .u8 0, .int .u8 0, .int .u8 0] 78)) 78 #[.int .u8 0, .int .u8 0, .int .u8 0, .int .u8 0, .int .u8 0, .int .u8 0, .int .u8 0]
  rw [World.size_alloc] at hE
  have hR := (Blk.new w 78 #[.int .u8 0, .int .u8 0, .int .u8 0, .int .u8 0, .int .u8 0, .int .u8 0, .int .u8 0]).alloc (.cells #[.int .u8 0, .int .u8 0, .int .u8 0, .int .u8 0, .int .u8 0, .int .u8 0, .int .u8 0] 78)
  have hb := ((Below.refl w.heap.size w).alloc (Nat.le_refl _) (.cells #[.int .u8 0, .int .u8 0, .int .u8 0, .int .u8 0, .int .u8 0, .int .u8 0, .int .u8 0] 78)).alloc (by simp) (.cells #[.int .u8 0, .int .u8 0, .int .u8 0, .int .u8 0, .int .u8 0, .int .u8 0, .int .u8 0] 78)
  have HE := Lib.hid hE
  have HR := Lib.hid hR
  have HB := Lib.hid hb
  clear hE hR hb
  go_enter Try.func89, Try.ntmps89
  go_wp2
  go_loopw [3] (fun i wr => ∃ k : Nat, k ≤ 7 ∧ i = .int .i64 k ∧ Hid (Blk wr (w.heap.size + 1) 78 (u8s ((idL 7).take k ++ List.replicate (7 - k) 0))) ∧ Hid (Blk wr w.heap.size 78 #[.int .u8 0, .int .u8 0, .int .u8 0, .int .u8 0, .int .u8 0, .int .u8 0, .int .u8 0]) ∧ Below w.heap.size w wr) (fun i _ => 7 - (intOf i).toNat)
  case atStart => exact ⟨0, by omega, rfl, HE, HR, HB.out⟩
  case round =>
    clear HE HR HB
    obtain ⟨k, hk, rfl, hE, hR, hb⟩ := hrel
    by_cases hlt : k < 7
    · have hset := hE.out.set k (.int .u8 k)
      rw [u8s_set, fill7 (length_idL 7) hlt (idL_get 7 k hlt).symm] at hset
      have hcur : ∃ u, wr.cell? ⟨w.heap.size + 1, k, none⟩ = some u := ⟨_, by rw [hE.out.cell k]; exact u8s_get _ k (by simp [length_idL]; omega)⟩
      obtain ⟨u, hcur⟩ := hcur
      have hf := hE.out.free k
      have HS := Lib.hid hset
      have HR2 := Lib.hid (hR.out.other (w.heap.size + 1) k (.int .u8 k) (by omega))
      clear hset
      go_wp2
      go_roundw
      case rel => exact ⟨k + 1, by omega, by go_num, HS, HR2, hb.setCell (by show w.heap.size ≤ w.heap.size + 1; omega) _⟩
      case measure => simp [intOf]; omega
    · obtain rfl : k = 7 := by omega
      have hE7 : Blk wr (w.heap.size + 1) 78 (u8s (idL 7)) := by
        have := hE.out
        rwa [Nat.sub_self, List.replicate_zero, List.append_nil, List.take_of_length_le (by rw [length_idL]; exact Nat.le_refl _)] at this
      have hi1 := infoElem' (length_idL 7)
      have hone := u8s_one (idL 7)
      have HRow := Lib.hid (hR.out.setRow (u8s (idL 7)))
      have HB2 := Lib.hid (below_row hb w.heap.size (u8s (idL 7)) (Nat.le_refl _))
      go_wp2_with (first | (refine wpList_load_row rfl 78 _ rfl (w.heap.size + 1) rfl 78 (u8s (idL 7)) (0, 0) _ hE7 Try.underlying78 rfl hi1 ?_) | (refine wpList_store_row rfl 78 _ _ rfl w.heap.size (u8s (idL 7)) rfl rfl 78 #[.int .u8 0, .int .u8 0, .int .u8 0, .int .u8 0, .int .u8 0, .int .u8 0, .int .u8 0] hR.out hi1 (by rw [size_u8s, length_idL]; rfl) hone ?_))
      exact bodyPost_ret (res_elem rfl _ _ w.heap.size (u8s (idL 7)) rfl HRow.out hi1) rfl ⟨rfl, HB2.out⟩

theorem zero_el : Value.agg (u8s (List.replicate 7 0)) = .agg #[.int .u8 0, .int .u8 0, .int .u8 0, .int .u8 0, .int .u8 0, .int .u8 0, .int .u8 0] := rfl

theorem run_index_el {l : List Int} (h : l.length = 7) (k : Nat) (hk : k < 7) (w : World) : (Instr.index 78 (.agg (u8s l)) (.int .i64 k)).run Try.prog w = .ok (.int .u8 (l.getD k 0)) w := by
  match l, h with
  | [x0, x1, x2, x3, x4, x5, x6], _ =>
    match k, hk with
    | 0, _ => show _ = _; kernel_rfl
    | 1, _ => show _ = _; kernel_rfl
    | 2, _ => show _ = _; kernel_rfl
    | 3, _ => show _ = _; kernel_rfl
    | 4, _ => show _ = _; kernel_rfl
    | 5, _ => show _ = _; kernel_rfl
    | 6, _ => show _ = _; kernel_rfl

set_option maxRecDepth 100000 in
set_option maxHeartbeats 1000000 in
theorem times_any (a b : List Int) (w : World) (ha : E7 a) (hE : E7 b) :
    Calls Try.prog 83 #[.agg (u8s a), .agg (u8s b)] w fun e w' => e = .returned (.agg (u8s (mulL a b))) ∧ Below w.heap.size w w' := by
  have b1 := Blk.new w 78 (u8s a)
  have b2 := Blk.new (w.alloc (.cells (u8s a) 78)) 78 (u8s b)
  rw [World.size_alloc] at b2
  have b3 := Blk.new ((w.alloc (.cells (u8s a) 78)).alloc (.cells (u8s b) 78)) 78 #[.int .u8 0, .int .u8 0, .int .u8 0, .int .u8 0, .int .u8 0, .int .u8 0, .int .u8 0]
  rw [World.size_alloc, World.size_alloc] at b3
  have b4 := Blk.new (((w.alloc (.cells (u8s a) 78)).alloc (.cells (u8s b) 78)).alloc (.cells #[.int .u8 0, .int .u8 0, .int .u8 0, .int .u8 0, .int .u8 0, .int .u8 0, .int .u8 0] 78)) 78 #[.int .u8 0, .int .u8 0, .int .u8 0, .int .u8 0, .int .u8 0, .int .u8 0, .int .u8 0]
  rw [World.size_alloc, World.size_alloc, World.size_alloc] at b4
  have hbw := ((((Below.refl w.heap.size w).alloc (Nat.le_refl _) (.cells (u8s a) 78)).alloc (by simp) (.cells (u8s b) 78)).alloc (by simp; omega) (.cells #[.int .u8 0, .int .u8 0, .int .u8 0, .int .u8 0, .int .u8 0, .int .u8 0, .int .u8 0] 78)).alloc (by simp; omega) (.cells #[.int .u8 0, .int .u8 0, .int .u8 0, .int .u8 0, .int .u8 0, .int .u8 0, .int .u8 0] 78)
  have c1 := Lib.hid (((b1.alloc (.cells (u8s b) 78)).alloc (.cells #[.int .u8 0, .int .u8 0, .int .u8 0, .int .u8 0, .int .u8 0, .int .u8 0, .int .u8 0] 78)).alloc (.cells #[.int .u8 0, .int .u8 0, .int .u8 0, .int .u8 0, .int .u8 0, .int .u8 0, .int .u8 0] 78))
  have c2 := Lib.hid ((b2.alloc (.cells #[.int .u8 0, .int .u8 0, .int .u8 0, .int .u8 0, .int .u8 0, .int .u8 0, .int .u8 0] 78)).alloc (.cells #[.int .u8 0, .int .u8 0, .int .u8 0, .int .u8 0, .int .u8 0, .int .u8 0, .int .u8 0] 78))
  have c3 := Lib.hid (b3.alloc (.cells #[.int .u8 0, .int .u8 0, .int .u8 0, .int .u8 0, .int .u8 0, .int .u8 0, .int .u8 0] 78))
  have c4 := Lib.hid b4
  have HBW := Lib.hid hbw
  clear b1 b2 b3 b4 hbw
  go_enter Try.func83, Try.ntmps83
  go_wp2_with (refine wpList_load_row rfl 78 _ rfl w.heap.size rfl 78 (u8s a) (0, 0) _ c1.out Try.underlying78 rfl (infoElem' ha.1) ?_)
  have hlm := length_mulL a b
  go_loopw [9] (fun i wr => ∃ k : Nat, k ≤ 7 ∧ i = .int .i64 k ∧ Hid (Blk wr (w.heap.size + 1) 78 (u8s b)) ∧ Hid (Blk wr (w.heap.size + 1 + 1) 78 #[.int .u8 0, .int .u8 0, .int .u8 0, .int .u8 0, .int .u8 0, .int .u8 0, .int .u8 0]) ∧ Hid (Blk wr (w.heap.size + 1 + 1 + 1) 78 (u8s ((mulL a b).take k ++ List.replicate (7 - k) 0))) ∧ Below w.heap.size w wr) (fun i _ => 7 - (intOf i).toNat)
  case atStart => exact ⟨0, by omega, rfl, c2, c3, c4, HBW.out⟩
  case round =>
    clear c1 c2 c3 c4 HBW
    obtain ⟨k, hk, rfl, h2, h3, h4, hb⟩ := hrel
    by_cases hlt : k < 7
    · have hix := run_index_el ha.1 k hlt
      obtain ⟨x0, x1⟩ := ha.2 k hlt
      have hget := mulL_get a b k (by rw [ha.1]; exact hlt)
      obtain ⟨x, hx⟩ : ∃ x, x = a.getD k 0 := ⟨_, rfl⟩
      rw [← hx] at hix x0 x1 hget
      obtain ⟨n, rfl⟩ := Int.eq_ofNat_of_zero_le x0
      have hn7 : n < 7 := by omega
      have g2 := h2.out.cell n
      rw [u8s_get b n (by rw [hE.1]; exact hn7)] at g2
      obtain ⟨y, hy⟩ : ∃ y, y = b.getD n 0 := ⟨_, rfl⟩
      rw [← hy] at g2
      have hset := h4.out.set k (.int .u8 y)
      rw [u8s_set, fill7 (hlm.trans ha.1) hlt (by rw [hget, hy]; rfl)] at hset
      have hcur : ∃ u, wr.cell? ⟨w.heap.size + 1 + 1 + 1, k, none⟩ = some u := ⟨_, by rw [h4.out.cell k]; exact u8s_get _ k (by simp [hlm, ha.1]; omega)⟩
      obtain ⟨u, hcur⟩ := hcur
      have hf := h4.out.free k
      have H4 := Lib.hid hset
      have H2 := Lib.hid (h2.out.other (w.heap.size + 1 + 1 + 1) k (.int .u8 y) (by omega))
      have H3 := Lib.hid (h3.out.other (w.heap.size + 1 + 1 + 1) k (.int .u8 y) (by omega))
      clear hset hget hx hy
      go_wp2
      go_roundw
      case rel => exact ⟨k + 1, by omega, by go_num, H2, H3, H4, hb.setCell (by show w.heap.size ≤ w.heap.size + 1 + 1 + 1; omega) _⟩
      case measure => simp [intOf]; omega
    · obtain rfl : k = 7 := by omega
      have hE7 : Blk wr (w.heap.size + 1 + 1 + 1) 78 (u8s (mulL a b)) := by
        have := h4.out
        rwa [Nat.sub_self, List.replicate_zero, List.append_nil, List.take_of_length_le (by rw [hlm, ha.1]; exact Nat.le_refl _)] at this
      have hl7 : (mulL a b).length = 7 := hlm.trans ha.1
      have hi1 := infoElem' hl7
      have hone := u8s_one (mulL a b)
      have HRow := Lib.hid (h3.out.setRow (u8s (mulL a b)))
      have HB2 := Lib.hid (below_row hb (w.heap.size + 1 + 1) (u8s (mulL a b)) (by omega))
      go_wp2_with (first | (refine wpList_load_row rfl 78 _ rfl (w.heap.size + 1 + 1 + 1) rfl 78 (u8s (mulL a b)) (0, 0) _ hE7 Try.underlying78 rfl hi1 ?_) | (refine wpList_store_row rfl 78 _ _ rfl (w.heap.size + 1 + 1) (u8s (mulL a b)) rfl rfl 78 #[.int .u8 0, .int .u8 0, .int .u8 0, .int .u8 0, .int .u8 0, .int .u8 0, .int .u8 0] h3.out hi1 (by rw [size_u8s, hl7]; rfl) hone ?_))
      exact bodyPost_ret (res_elem rfl _ _ (w.heap.size + 1 + 1) (u8s (mulL a b)) rfl HRow.out hi1) rfl ⟨rfl, HB2.out⟩

theorem invTo_get7 {a : List Int} (h : a.length = 7) (k : Nat) : (invTo a k).length = 7 := by rw [length_invTo, h]

set_option maxRecDepth 100000 in
set_option maxHeartbeats 1000000 in
theorem inverse_el (a : List Int) (w : World) (ha : E7 a) :
    Calls Try.prog 94 #[.agg (u8s a)] w fun e w' => e = .returned (.agg (u8s (invL a))) ∧ Below w.heap.size w w' := by
  have b1 := Blk.new w 78 (u8s a)
  have b3 := Blk.new (w.alloc (.cells (u8s a) 78)) 78 #[.int .u8 0, .int .u8 0, .int .u8 0, .int .u8 0, .int .u8 0, .int .u8 0, .int .u8 0]
  rw [World.size_alloc] at b3
  have b4 := Blk.new ((w.alloc (.cells (u8s a) 78)).alloc (.cells #[.int .u8 0, .int .u8 0, .int .u8 0, .int .u8 0, .int .u8 0, .int .u8 0, .int .u8 0] 78)) 78 #[.int .u8 0, .int .u8 0, .int .u8 0, .int .u8 0, .int .u8 0, .int .u8 0, .int .u8 0]
  rw [World.size_alloc, World.size_alloc] at b4
  have hbw := (((Below.refl w.heap.size w).alloc (Nat.le_refl _) (.cells (u8s a) 78)).alloc (by simp) (.cells #[.int .u8 0, .int .u8 0, .int .u8 0, .int .u8 0, .int .u8 0, .int .u8 0, .int .u8 0] 78)).alloc (by simp; omega) (.cells #[.int .u8 0, .int .u8 0, .int .u8 0, .int .u8 0, .int .u8 0, .int .u8 0, .int .u8 0] 78)
  have c1 := Lib.hid ((b1.alloc (.cells #[.int .u8 0, .int .u8 0, .int .u8 0, .int .u8 0, .int .u8 0, .int .u8 0, .int .u8 0] 78)).alloc (.cells #[.int .u8 0, .int .u8 0, .int .u8 0, .int .u8 0, .int .u8 0, .int .u8 0, .int .u8 0] 78))
  have c3 := Lib.hid (b3.alloc (.cells #[.int .u8 0, .int .u8 0, .int .u8 0, .int .u8 0, .int .u8 0, .int .u8 0, .int .u8 0] 78))
  have c4 := Lib.hid (show Blk _ (w.heap.size + 1 + 1) 78 (u8s (invTo a 0)) from by rw [invTo, ha.1]; exact b4)
  have HBW := Lib.hid hbw
  clear b1 b3 b4 hbw
  go_enter Try.func94, Try.ntmps94
  go_wp2_with (refine wpList_load_row rfl 78 _ rfl w.heap.size rfl 78 (u8s a) (0, 0) _ c1.out Try.underlying78 rfl (infoElem' ha.1) ?_)
  go_loopw [7] (fun i wr => ∃ k : Nat, k ≤ 7 ∧ i = .int .i64 k ∧ Hid (Blk wr (w.heap.size + 1) 78 #[.int .u8 0, .int .u8 0, .int .u8 0, .int .u8 0, .int .u8 0, .int .u8 0, .int .u8 0]) ∧ Hid (Blk wr (w.heap.size + 1 + 1) 78 (u8s (invTo a k))) ∧ Below w.heap.size w wr) (fun i _ => 7 - (intOf i).toNat)
  case atStart => exact ⟨0, by omega, rfl, c3, c4, HBW.out⟩
  case round =>
    clear c1 c3 c4 HBW
    obtain ⟨k, hk, rfl, h3, h4, hb⟩ := hrel
    have hl7 := invTo_get7 ha.1 k
    by_cases hlt : k < 7
    · have hix := run_index_el ha.1 k hlt
      obtain ⟨x0, x1⟩ := ha.2 k hlt
      have hstep : invTo a (k + 1) = (invTo a k).set (a.getD k 0).toNat k := rfl
      obtain ⟨x, hx⟩ : ∃ x, x = a.getD k 0 := ⟨_, rfl⟩
      rw [← hx] at hix x0 x1 hstep
      obtain ⟨n, rfl⟩ := Int.eq_ofNat_of_zero_le x0
      have hn7 : n < 7 := by omega
      have hset := h4.out.set n (.int .u8 k)
      rw [u8s_set] at hset
      have hcur : ∃ u, wr.cell? ⟨w.heap.size + 1 + 1, n, none⟩ = some u := ⟨_, by rw [h4.out.cell n]; exact u8s_get _ n (by omega)⟩
      obtain ⟨u, hcur⟩ := hcur
      have hf := h4.out.free n
      have H4 := Lib.hid (show Blk _ _ _ (u8s (invTo a (k + 1))) from by rw [hstep]; exact hset)
      have H3 := Lib.hid (h3.out.other (w.heap.size + 1 + 1) n (.int .u8 k) (by omega))
      clear hset hx hstep
      go_wp2
      go_roundw
      case rel => exact ⟨k + 1, by omega, by go_num, H3, H4, hb.setCell (by show w.heap.size ≤ w.heap.size + 1 + 1; omega) _⟩
      case measure => simp [intOf]; omega
    · obtain rfl : k = 7 := by omega
      have hE7 : Blk wr (w.heap.size + 1 + 1) 78 (u8s (invL a)) := by
        have := h4.out
        rwa [show invTo a 7 = invL a from by unfold invL; rw [ha.1]] at this
      have hl8 : (invL a).length = 7 := (length_invL a).trans ha.1
      have hi1 := infoElem' hl8
      have hone := u8s_one (invL a)
      have HRow := Lib.hid (h3.out.setRow (u8s (invL a)))
      have HB2 := Lib.hid (below_row hb (w.heap.size + 1) (u8s (invL a)) (by omega))
      go_wp2_with (first | (refine wpList_load_row rfl 78 _ rfl (w.heap.size + 1 + 1) rfl 78 (u8s (invL a)) (0, 0) _ hE7 Try.underlying78 rfl hi1 ?_) | (refine wpList_store_row rfl 78 _ _ rfl (w.heap.size + 1) (u8s (invL a)) rfl rfl 78 #[.int .u8 0, .int .u8 0, .int .u8 0, .int .u8 0, .int .u8 0, .int .u8 0, .int .u8 0] h3.out hi1 (by rw [size_u8s, hl8]; rfl) hone ?_))
      exact bodyPost_ret (res_elem rfl _ _ (w.heap.size + 1) (u8s (invL a)) rfl HRow.out hi1) rfl ⟨rfl, HB2.out⟩

/-- the steps of conjugation: the image of by[i] is by[a[i]] -/
def cjTo (a b : List Int) : Nat → List Int
  | 0 => List.replicate 7 0
  | k + 1 => (cjTo a b k).set (b.getD k 0).toNat (b.getD (a.getD k 0).toNat 0)
theorem length_cjTo (a b : List Int) (k : Nat) : (cjTo a b k).length = 7 := by
  induction k with
  | zero => simp [cjTo]
  | succ k ih => rw [cjTo, List.length_set, ih]

set_option maxRecDepth 100000 in
set_option maxHeartbeats 1000000 in
theorem conj_el (a b : List Int) (w : World) (ha : E7 a) (hE : E7 b) :
    Calls Try.prog 82 #[.agg (u8s a), .agg (u8s b)] w fun e w' => e = .returned (.agg (u8s (cjTo a b 7))) ∧ Below w.heap.size w w' := by
  have b1 := Blk.new w 78 (u8s a)
  have b2 := Blk.new (w.alloc (.cells (u8s a) 78)) 78 (u8s b)
  rw [World.size_alloc] at b2
  have b3 := Blk.new ((w.alloc (.cells (u8s a) 78)).alloc (.cells (u8s b) 78)) 78 #[.int .u8 0, .int .u8 0, .int .u8 0, .int .u8 0, .int .u8 0, .int .u8 0, .int .u8 0]
  rw [World.size_alloc, World.size_alloc] at b3
  have b4 := Blk.new (((w.alloc (.cells (u8s a) 78)).alloc (.cells (u8s b) 78)).alloc (.cells #[.int .u8 0, .int .u8 0, .int .u8 0, .int .u8 0, .int .u8 0, .int .u8 0, .int .u8 0] 78)) 78 #[.int .u8 0, .int .u8 0, .int .u8 0, .int .u8 0, .int .u8 0, .int .u8 0, .int .u8 0]
  rw [World.size_alloc, World.size_alloc, World.size_alloc] at b4
  have hbw := ((((Below.refl w.heap.size w).alloc (Nat.le_refl _) (.cells (u8s a) 78)).alloc (by simp) (.cells (u8s b) 78)).alloc (by simp; omega) (.cells #[.int .u8 0, .int .u8 0, .int .u8 0, .int .u8 0, .int .u8 0, .int .u8 0, .int .u8 0] 78)).alloc (by simp; omega) (.cells #[.int .u8 0, .int .u8 0, .int .u8 0, .int .u8 0, .int .u8 0, .int .u8 0, .int .u8 0] 78)
  have c1 := Lib.hid (((b1.alloc (.cells (u8s b) 78)).alloc (.cells #[.int .u8 0, .int .u8 0, .int .u8 0, .int .u8 0, .int .u8 0, .int .u8 0, .int .u8 0] 78)).alloc (.cells #[.int .u8 0, .int .u8 0, .int .u8 0, .int .u8 0, .int .u8 0, .int .u8 0, .int .u8 0] 78))
  have c2 := Lib.hid ((b2.alloc (.cells #[.int .u8 0, .int .u8 0, .int .u8 0, .int .u8 0, .int .u8 0, .int .u8 0, .int .u8 0] 78)).alloc (.cells #[.int .u8 0, .int .u8 0, .int .u8 0, .int .u8 0, .int .u8 0, .int .u8 0, .int .u8 0] 78))
  have c3 := Lib.hid (b3.alloc (.cells #[.int .u8 0, .int .u8 0, .int .u8 0, .int .u8 0, .int .u8 0, .int .u8 0, .int .u8 0] 78))
  have c4 := Lib.hid b4
  have HBW := Lib.hid hbw
  clear b1 b2 b3 b4 hbw
  go_enter Try.func82, Try.ntmps82
  go_wp2_with (refine wpList_load_row rfl 78 _ rfl (w.heap.size + 1) rfl 78 (u8s b) (0, 0) _ c2.out Try.underlying78 rfl (infoElem' hE.1) ?_)
  go_loopw [9] (fun i wr => ∃ k : Nat, k ≤ 7 ∧ i = .int .i64 k ∧ Hid (Blk wr w.heap.size 78 (u8s a)) ∧ Hid (Blk wr (w.heap.size + 1) 78 (u8s b)) ∧ Hid (Blk wr (w.heap.size + 1 + 1) 78 #[.int .u8 0, .int .u8 0, .int .u8 0, .int .u8 0, .int .u8 0, .int .u8 0, .int .u8 0]) ∧ Hid (Blk wr (w.heap.size + 1 + 1 + 1) 78 (u8s (cjTo a b k))) ∧ Below w.heap.size w wr) (fun i _ => 7 - (intOf i).toNat)
  case atStart => exact ⟨0, by omega, rfl, c1, c2, c3, c4, HBW.out⟩
  case round =>
    clear c1 c2 c3 c4 HBW
    obtain ⟨k, hk, rfl, h1, h2, h3, h4, hb⟩ := hrel
    have hl7 := length_cjTo a b k
    by_cases hlt : k < 7
    · have hix := run_index_el hE.1 k hlt
      obtain ⟨x0, x1⟩ := hE.2 k hlt
      obtain ⟨y0, y1⟩ := ha.2 k hlt
      have hstep : cjTo a b (k + 1) = (cjTo a b k).set (b.getD k 0).toNat (b.getD (a.getD k 0).toNat 0) := rfl
      obtain ⟨x, hx⟩ : ∃ x, x = b.getD k 0 := ⟨_, rfl⟩
      rw [← hx] at hix x0 x1 hstep
      obtain ⟨n, rfl⟩ := Int.eq_ofNat_of_zero_le x0
      have hn7 : n < 7 := by omega
      have g1 := h1.out.cell k
      rw [u8s_get a k (by rw [ha.1]; exact hlt)] at g1
      obtain ⟨y, hy⟩ : ∃ y, y = a.getD k 0 := ⟨_, rfl⟩
      rw [← hy] at g1 y0 y1 hstep
      obtain ⟨m, rfl⟩ := Int.eq_ofNat_of_zero_le y0
      have hm7 : m < 7 := by omega
      have g2 := h2.out.cell m
      rw [u8s_get b m (by rw [hE.1]; exact hm7)] at g2
      obtain ⟨z, hz⟩ : ∃ z, z = b.getD m 0 := ⟨_, rfl⟩
      rw [← hz] at g2
      have hset := h4.out.set n (.int .u8 z)
      rw [u8s_set] at hset
      have hcur : ∃ u, wr.cell? ⟨w.heap.size + 1 + 1 + 1, n, none⟩ = some u := ⟨_, by rw [h4.out.cell n]; exact u8s_get _ n (by omega)⟩
      obtain ⟨u, hcur⟩ := hcur
      have hf := h4.out.free n
      have H4 := Lib.hid (show Blk _ _ _ (u8s (cjTo a b (k + 1))) from by rw [hstep, show ((m : Int)).toNat = m from rfl, ← hz]; exact hset)
      have H1 := Lib.hid (h1.out.other (w.heap.size + 1 + 1 + 1) n (.int .u8 z) (by omega))
      have H2 := Lib.hid (h2.out.other (w.heap.size + 1 + 1 + 1) n (.int .u8 z) (by omega))
      have H3 := Lib.hid (h3.out.other (w.heap.size + 1 + 1 + 1) n (.int .u8 z) (by omega))
      clear hset hx hy hz hstep
      go_wp2
      go_roundw
      case rel => exact ⟨k + 1, by omega, by go_num, H1, H2, H3, H4, hb.setCell (by show w.heap.size ≤ w.heap.size + 1 + 1 + 1; omega) _⟩
      case measure => simp [intOf]; omega
    · obtain rfl : k = 7 := by omega
      have hi1 := infoElem' hl7
      have hone := u8s_one (cjTo a b 7)
      have hE7 := h4.out
      have HRow := Lib.hid (h3.out.setRow (u8s (cjTo a b 7)))
      have HB2 := Lib.hid (below_row hb (w.heap.size + 1 + 1) (u8s (cjTo a b 7)) (by omega))
      go_wp2_with (first | (refine wpList_load_row rfl 78 _ rfl (w.heap.size + 1 + 1 + 1) rfl 78 (u8s (cjTo a b 7)) (0, 0) _ hE7 Try.underlying78 rfl hi1 ?_) | (refine wpList_store_row rfl 78 _ _ rfl (w.heap.size + 1 + 1) (u8s (cjTo a b 7)) rfl rfl 78 #[.int .u8 0, .int .u8 0, .int .u8 0, .int .u8 0, .int .u8 0, .int .u8 0, .int .u8 0] h3.out hi1 (by rw [size_u8s, hl7]; rfl) hone ?_))
      exact bodyPost_ret (res_elem rfl _ _ (w.heap.size + 1 + 1) (u8s (cjTo a b 7)) rfl HRow.out hi1) rfl ⟨rfl, HB2.out⟩
end Go.Proofs.Ytjnjhfificpbbaa
namespace Go.Proofs.Ytjnjhfificpbbaa
open Go.RowKit

/-- an element: a permutation of seven points -/
def El (a : List Int) : Prop := validL a = true ∧ a.length = 7
theorem El.e7 {a : List Int} (h : El a) : E7 a := E7_valid h.1 h.2
theorem El.mul {a b : List Int} (ha : El a) (hb : El b) : El (mulL a b) := ⟨mulL_valid ha.1 hb.1 (ha.2.trans hb.2.symm), (length_mulL a b).trans ha.2⟩
theorem El.inv {a : List Int} (ha : El a) : El (invL a) := ⟨invL_valid ha.1, (length_invL a).trans ha.2⟩
theorem El.one : El (idL 7) := ⟨idL_valid (by decide) (by decide), length_idL 7⟩
theorem El.assoc {a b : List Int} (c : List Int) (ha : El a) (hb : El b) : mulL (mulL a b) c = mulL a (mulL b c) := mulL_assoc ha.1 (ha.2.trans hb.2.symm)
theorem El.mul_one {a : List Int} (ha : El a) : mulL a (idL 7) = a := by have := mulL_one ha.1; rwa [ha.2] at this
theorem El.one_mul {a : List Int} (ha : El a) : mulL (idL 7) a = a := by have := one_mulL a; rwa [ha.2] at this
theorem El.mul_inv {a : List Int} (ha : El a) : mulL a (invL a) = idL 7 := by rw [mulL_inv ha.1, ha.2]
theorem El.inv_mul {a : List Int} (ha : El a) : mulL (invL a) a = idL 7 := by rw [inv_mulL ha.1, ha.2]
theorem El.pt {a : List Int} (ha : El a) {x : Int} : pt a x ↔ 0 ≤ x ∧ x < 7 := by unfold Go.Proofs.Ytjnjhfificpbbaa.pt; rw [ha.2]; rfl
theorem El.ext {a b : List Int} (ha : El a) (hb : El b) (h : ∀ x, 0 ≤ x → x < 7 → im a x = im b x) : a = b :=
  ext_im (ha.2.trans hb.2.symm) (fun x hx => h x (ha.pt.1 hx).1 (ha.pt.1 hx).2)

/-- conjugation, as the program's loop makes it -/
theorem cjTo_get {a b : List Int} (hb : El b) (k : Nat) (hk : k ≤ 7) : ∀ i, i < k → im (cjTo a b k) (im b (i : Int)) = im b (im a (i : Int)) := by
  induction k with
  | zero => intro i hi; omega
  | succ k ih =>
    intro i hi
    have pk : Go.Proofs.Ytjnjhfificpbbaa.pt b (k : Int) := hb.pt.2 ⟨by omega, by omega⟩
    have pi : Go.Proofs.Ytjnjhfificpbbaa.pt b (i : Int) := hb.pt.2 ⟨by omega, by omega⟩
    have qk := im_pt hb.1 pk
    have qi := im_pt hb.1 pi
    obtain ⟨b0, b1⟩ := hb.pt.1 qi
    have hl := length_cjTo a b k
    by_cases e : i = k
    · subst e
      rw [cjTo]
      have := getD_set (cjTo a b i) (im b (i : Int)).toNat (im b (i : Int)).toNat (im b (im a (i : Int)))
      rw [if_pos ⟨rfl, by omega⟩] at this
      exact this
    · have hne : (im b (k : Int)).toNat ≠ (im b (i : Int)).toNat := by
        intro e2
        obtain ⟨a0, _⟩ := hb.pt.1 qk
        exact e (by have := im_inj hb.1 pi pk (by omega); omega)
      have h2 := ih (by omega) i (by omega)
      rw [cjTo]
      have := getD_set (cjTo a b k) (im b (k : Int)).toNat (im b (i : Int)).toNat (im b (im a (k : Int)))
      rw [if_neg (fun h => hne h.1)] at this
      exact this.trans h2
/-- the inverse of b, a and b, in this order -/
def conjL (a b : List Int) : List Int := mulL (mulL (invL b) a) b
theorem El.conj {a b : List Int} (ha : El a) (hb : El b) : El (conjL a b) := (hb.inv.mul ha).mul hb
theorem cjTo_eq {a b : List Int} (ha : El a) (hb : El b) : cjTo a b 7 = conjL a b := by
  have hc := ha.conj hb
  refine ext_im ((length_cjTo a b 7).trans hc.2.symm) (fun x hx => ?_)
  have hx' : Go.Proofs.Ytjnjhfificpbbaa.pt b x := by
    unfold Go.Proofs.Ytjnjhfificpbbaa.pt at hx ⊢
    rw [length_cjTo] at hx
    rw [hb.2]; exact hx
  obtain ⟨hy, e⟩ := inv_im hb.1 hx'
  obtain ⟨y0, y1⟩ := hb.pt.1 hy
  obtain ⟨i, hi⟩ := Int.eq_ofNat_of_zero_le y0
  have h1 := cjTo_get (a := a) hb 7 (Nat.le_refl _) i (by omega)
  rw [← hi, e] at h1
  rw [h1]
  unfold conjL
  have p1 : Go.Proofs.Ytjnjhfificpbbaa.pt (mulL (invL b) a) x := by unfold Go.Proofs.Ytjnjhfificpbbaa.pt; rw [length_mulL, length_invL]; exact hx'
  have p2 : Go.Proofs.Ytjnjhfificpbbaa.pt (invL b) x := by unfold Go.Proofs.Ytjnjhfificpbbaa.pt; rw [length_invL]; exact hx'
  rw [im_mulL p1, im_mulL p2]

/-- a permutation of fewer points fixes the others -/
def pk7 (p : List Int) : List Int := p ++ (idL 7).drop p.length
theorem length_pk7 {p : List Int} (h : p.length ≤ 7) : (pk7 p).length = 7 := by unfold pk7; rw [List.length_append, List.length_drop, length_idL]; omega
theorem im_pk7_in {p : List Int} {x : Int} (hx : pt p x) : im (pk7 p) x = im p x := by
  obtain ⟨h0, h1⟩ := hx
  unfold im pk7
  have : x.toNat < p.length := by omega
  rw [List.getD_eq_getElem?_getD, List.getElem?_append_left this, ← List.getD_eq_getElem?_getD]
theorem im_pk7_out {p : List Int} (hp : p.length ≤ 7) {x : Int} (h0 : (p.length : Int) ≤ x) (h1 : x < 7) : im (pk7 p) x = x := by
  obtain ⟨n, rfl⟩ := Int.eq_ofNat_of_zero_le (show 0 ≤ x by omega)
  unfold im pk7
  have e : ((n : Int)).toNat = n := rfl
  rw [e, List.getD_eq_getElem?_getD, List.getElem?_append_right (by omega), List.getElem?_drop, show p.length + (n - p.length) = n by omega, ← List.getD_eq_getElem?_getD, idL_get 7 n (by omega)]
theorem pk7_el {p : List Int} (h : validL p = true) : El (pk7 p) := by
  have h7 := ((validL_iff p).1 h).2.1
  have hl := length_pk7 h7
  have hpt : ∀ x, pt (pk7 p) x ↔ 0 ≤ x ∧ x < 7 := fun x => by unfold pt; rw [hl]; rfl
  have him : ∀ x, 0 ≤ x → x < 7 → (x < (p.length : Int) ∧ im (pk7 p) x = im p x ∧ 0 ≤ im p x ∧ im p x < (p.length : Int)) ∨ ((p.length : Int) ≤ x ∧ im (pk7 p) x = x) := fun x h0 h1 => by
    by_cases hx : x < (p.length : Int)
    · have := im_pt h ⟨h0, hx⟩
      exact .inl ⟨hx, im_pk7_in ⟨h0, hx⟩, this.1, this.2⟩
    · exact .inr ⟨by omega, im_pk7_out h7 (by omega) h1⟩
  refine ⟨validL_of_inj (by omega) (by omega) ?_ ?_, hl⟩
  · intro x hx
    rw [hpt] at hx ⊢
    rcases him x hx.1 hx.2 with ⟨_, e, h2, h3⟩ | ⟨_, e⟩ <;> rw [e] <;> omega
  · intro x y hx hy e
    rw [hpt] at hx hy
    rcases him x hx.1 hx.2 with ⟨a1, a2, a3, a4⟩ | ⟨a1, a2⟩ <;> rcases him y hy.1 hy.2 with ⟨b1, b2, b3, b4⟩ | ⟨b1, b2⟩
    · rw [a2, b2] at e; exact im_inj h ⟨hx.1, a1⟩ ⟨hy.1, b1⟩ e
    · rw [a2, b2] at e; omega
    · rw [a2, b2] at e; omega
    · rw [a2, b2] at e; exact e
theorem pk7_mul {p q : List Int} (hp : validL p = true) (hq : validL q = true) (hl : p.length = q.length) : pk7 (mulL p q) = mulL (pk7 p) (pk7 q) := by
  have h7 := ((validL_iff p).1 hp).2.1
  have hm := mulL_valid hp hq hl
  have hml := length_mulL p q
  refine (pk7_el hm).ext ((pk7_el hp).mul (pk7_el hq)) (fun x h0 h1 => ?_)
  rw [im_mulL ((pk7_el hp).pt.2 ⟨h0, h1⟩)]
  by_cases hx : x < (p.length : Int)
  · have hx1 : pt p x := ⟨h0, hx⟩
    have hx2 : pt (mulL p q) x := ⟨h0, by rw [hml]; exact hx⟩
    have := im_pt hp hx1
    rw [im_pk7_in hx2, im_mulL hx1, im_pk7_in hx1, im_pk7_in ⟨this.1, by rw [← hl]; exact this.2⟩]
  · rw [im_pk7_out (by rw [hml]; exact h7) (by rw [hml]; omega) h1, im_pk7_out h7 (by omega) h1, im_pk7_out (by omega) (by omega) h1]
theorem pk7_id {n : Nat} (h7 : n ≤ 7) : pk7 (idL n) = idL 7 := by
  apply ext_im
  · rw [length_pk7 (by rw [length_idL]; exact h7), length_idL]
  intro x hx
  unfold pt at hx
  rw [length_pk7 (by rw [length_idL]; exact h7)] at hx
  by_cases hn : x < (n : Int)
  · rw [im_pk7_in ⟨hx.1, by rw [length_idL]; exact hn⟩, im_idL hx.1 hn, im_idL hx.1 (by omega)]
  · rw [im_pk7_out (by rw [length_idL]; exact h7) (by rw [length_idL]; omega) (by omega), im_idL hx.1 (by omega)]
/-- the first n images: back from the packing -/
def upk (n : Nat) (a : List Int) : List Int := a.take n
theorem upk_pk7 (p : List Int) : upk p.length (pk7 p) = p := by unfold upk pk7; rw [List.take_left']; rfl
theorem pk7_inj {p q : List Int} (hl : p.length = q.length) (h : pk7 p = pk7 q) : p = q := by
  rw [← upk_pk7 p, ← upk_pk7 q, h, hl]
end Go.Proofs.Ytjnjhfificpbbaa
namespace Go.Proofs.Ytjnjhfificpbbaa
open Go Go.RowKit

/-- Whatever is picked, the first f picks are of the head, and then number n alone may come up, and nothing after it. -/
def headB (ops hs : Array Oper) (n : Nat) : Nat → Array Bool → Bool
  | 0, listed => decide (Region.ready .any ops listed = [n]) && decide (Region.ready .any ops (listed.setIfInBounds n true) = [])
  | f + 1, listed => !decide (Region.ready .any ops listed = []) && (decide (Region.ready .any ops listed = Region.ready .any hs listed) && (Region.ready .any ops listed).all fun i => headB ops hs n f (listed.setIfInBounds i true))

section
variable {P : Program} {ops hs : Array Oper} {n : Nat} {C : World → Prop} {Q : Act → Prop} {Q' : Exit → Act → World → Prop}

theorem qOp_head {i : Nat} {o : Oper} {K : Act → Prop} {a : Act} (h1 : hs[i]? = some o) (h2 : ops[i]? = some o) (hg : o.guard = none) (h : qOp P hs C i K a) : qOp P ops C i K a := by
  have e1 : Region.wanted o (yielded hs a.tmps) = true := by simp [Region.wanted, hg]
  have e2 : Region.wanted o (yielded ops a.tmps) = true := by simp [Region.wanted, hg]
  unfold qOp at h ⊢
  simp only [h1, e1, if_true] at h
  simp only [h2, e2, if_true]
  exact h

theorem any_of_head (hg : ∀ (i : Nat) (o : Oper), hs[i]? = some o → ops[i]? = some o ∧ o.guard = none) (hQ : ∀ a w, C w → Q a → wpOp P ops Q' n (fun a' w' => Q' .normal a' w') a w) :
    ∀ (f : Nat) (listed : Array Bool) (a : Act) (w : World), C w → headB ops hs n f listed = true → wpAnyQ P .any hs C Q f listed a → wpAny P .any ops Q' (f + 1) listed a w
  | 0, listed, a, w, hw, hB, h => by
    simp only [headB, Bool.and_eq_true, decide_eq_true_eq] at hB
    refine ⟨fun h0 => (by rw [hB.1] at h0; cases h0), fun i hi => ?_⟩
    rw [hB.1] at hi
    have e : i = n := by simpa using hi
    subst e
    exact wpOp_mono (fun a' w' h' => ⟨hB.2, h'⟩) (hQ a w hw h.2)
  | f + 1, listed, a, w, hw, hB, h => by
    simp only [headB, Bool.and_eq_true, Bool.not_eq_true', decide_eq_true_eq, decide_eq_false_iff_not] at hB
    obtain ⟨hne, heq, hall⟩ := hB
    refine ⟨fun h0 => absurd h0 hne, fun i hi => ?_⟩
    have hB' := List.all_eq_true.1 hall i hi
    have hi' : i ∈ Region.ready .any hs listed := by rw [← heq]; exact hi
    obtain ⟨_, o, ho, _⟩ := mem_ready.1 hi'
    exact wpOp_of_qOp hw (fun a' w' hw' hK => any_of_head hg hQ f _ a' w' hw' hB' hK) (qOp_head ho (hg i o ho).1 (hg i o ho).2 (h.2 i hi'))

/-- What the kernel checks of the region. -/
def thenB (l : List Oper) (n : Nat) : Bool :=
  decide (l.length = n + 1) && (Region.noSelect (l.take n).toArray && (Region.lexFrom .any (l.take n).toArray n 0 (Array.replicate l.length false) && (headB l.toArray (l.take n).toArray n n (Array.replicate l.length false) && (l.take n).all (·.guard.isNone))))

theorem wp_region_quiet_then {id : Nat} {a : Act} {w : World} {l : List Oper} (n : Nat) (hm : P.follows .mixedOrders = true) (hB : thenB l n = true) (hC : C w.drew)
    (h : wpQuiet P (l.take n).toArray C (fun a' => ∀ w', C w' → wpList P l.toArray Q' (l.drop n) a' w') (l.take n) a) : (Code.region id l.toArray true).wp P Q' a w := by
  simp only [thenB, Bool.and_eq_true, decide_eq_true_eq] at hB
  obtain ⟨hn, hs, hl, hh, hgd⟩ := hB
  have hlen : (l.take n).length = n := by rw [List.length_take]; omega
  have hdrop : l.drop n = [l[n]] := by
    rw [List.drop_eq_getElem_cons (by omega), List.drop_eq_nil_of_le (by omega)]
  rw [hdrop] at h
  have H := wpAnyQ_lex (C := C) (md := .any) (ops := (l.take n).toArray) hs (l.take n) 0 (Array.replicate l.length false) a (fun j => by simp) (by rw [hlen]; exact hl) h
  rw [hlen] at H
  refine wp_region_any hm ?_
  have := any_of_head (ops := l.toArray) (Q' := Q') (n := n) (fun i o ho => ?_) (fun a' w' hw' hq => ?_) n _ a w.drew hC hh H
  · rw [show l.toArray.size = n + 1 by simpa using hn]
    rw [hn] at this
    exact this
  · have hi : i < n := by
      have := (Array.getElem?_eq_some_iff.1 ho).1
      simp at this; omega
    have e : l[i]? = some o := by
      have : (l.take n)[i]? = some o := by simpa using ho
      rwa [List.getElem?_take_of_lt hi] at this
    refine ⟨by simpa using e, ?_⟩
    have hm : o ∈ l.take n := List.mem_of_getElem? (by simpa using ho)
    have := List.all_eq_true.1 hgd o hm
    simpa using this
  · have h1 := hq w' hw'
    have h0 : l.toArray[n]? = some l[n] := by simp
    have hw : wpOp P l.toArray Q' n (wpList P l.toArray Q' []) a' w' := by unfold wpOp; simp only [h0]; exact h1
    exact wpOp_mono (fun _ _ h' => h') hw

/-- One quiet step: a load of a whole row. -/
theorem wpQuiet_load_row {rest : List Oper} {o : Oper} {a : Act} (hgd : o.guard = none) (ty : TypeId) (x : Operand) (ho : o.op = .load ty x) (g : Nat) (hx : a.eval x = .pointer (some ⟨g, 0, none⟩)) (t : TypeId) (cs : Array Value) (fr : Nat × Nat) (d : TypeDesc)
    (hg : ∀ w, C w → w.heap[g]? = some (.cells cs t fr)) (hu : P.underlying ty = some d) (hd : (match d with | .struct _ | .array _ _ => true | _ => false) = true) (hi : (P.info? ty).map (·.size) = some cs.size)
    (h : wpQuiet P ops C Q rest (a.put o.dst (.agg cs))) : wpQuiet P ops C Q (o :: rest) a := by
  have e1 : Region.wanted o (yielded ops a.tmps) = true := by simp [Region.wanted, hgd]
  unfold wpQuiet
  rw [if_pos e1]
  refine ⟨.agg cs, fun w hw => ?_, h⟩
  unfold Oper.quietAt execOp
  simp only [ho, hx, Instr.loadAt, Instr.sureAddr, Sem.run_bind, Sem.run_pure, Result.andThen_ok, run_loadVar_row w g t ty cs fr d (hg w hw) hu hd hi]
  exact ⟨rfl, rfl⟩

/-- One quiet step: a call of a function by its number. -/
theorem wpQuiet_call {rest : List Oper} {o : Oper} {a : Act} (hgd : o.guard = none) (f : FuncId) {fn : Func} (hf : P.funcs[f]? = some fn) (hnm : decide (fn.name = "runtime.NumGoroutine") = false) (hbd : fn.body.isNone = false) (xs : Array Operand) (ts : Array TypeId) (ho : o.op = .call { callee := .value (.func f), args := xs, argTypes := ts }) (args : Array Value) (hargs : (xs.toList.map a.eval).toArray = args) (v : Value)
    (hc : ∀ w, C w → Calls P f args w fun e w' => e = .returned v ∧ C w') (h : wpQuiet P ops C Q rest (a.put o.dst v)) : wpQuiet P ops C Q (o :: rest) a := by
  have e1 : Region.wanted o (yielded ops a.tmps) = true := by simp [Region.wanted, hgd]
  unfold wpQuiet
  rw [if_pos e1]
  refine ⟨v, fun w hw => ?_, h⟩
  have := hc w hw
  have hxs : xs.map a.eval = args := by rw [← hargs]; exact Array.toList_inj.1 (by rw [Array.toList_map])
  rw [← hxs] at this
  unfold Oper.quietAt
  have e : (execOp a.eval o).run P w = .ok (.enter f (xs.map a.eval)) w := by
    have h1 : ¬ fn.name = "runtime.NumGoroutine" := of_decide_eq_false hnm
    have h2 : ¬ fn.body = none := fun e => by rw [e] at hbd; cases hbd
    simp [execOp, ho, resolve, invoke, Act.eval, Deferred.ofValue, callFunc, hf, h1, h2]
  rw [e]
  exact ⟨rfl, this⟩
end
end Go.Proofs.Ytjnjhfificpbbaa
namespace Go.Proofs.Ytjnjhfificpbbaa
open Go.RowKit

theorem pk7_step {p : List Int} {k : Nat} (hp : p.length ≤ 7) (hk : k < p.length) : (p.take k ++ (idL 7).drop k).set k (p.getD k 0) = p.take (k + 1) ++ (idL 7).drop (k + 1) := by
  have h7 := length_idL 7
  rw [List.set_append_right _ _ (by rw [List.length_take]; omega), List.length_take, Nat.min_eq_left (by omega), Nat.sub_self, List.drop_eq_getElem_cons (show k < (idL 7).length by omega), List.set_cons_zero, List.take_succ_eq_append_getElem hk, List.append_assoc]
  simp [hk]

set_option maxRecDepth 100000 in
set_option maxHeartbeats 1000000 in
theorem pack_any (v : Value) (p : List Int) (w : World) (h1 : Sl w v p) (hv : validL p = true) :
    Calls Try.prog 67 #[v] w fun e w' => e = .returned (.agg (u8s (pk7 p))) ∧ Below w.heap.size w w' := by
  have H1 := Lib.hid h1
  obtain ⟨a, ca, rfl, h1⟩ := h1
  have hp7 := ((validL_iff p).1 hv).2.1
  have HIn := Lib.hid (fun k (hk : k < p.length) => inR_of_valid hv k hk)
  have b1 := Blk.new w 78 #[.int .u8 0, .int .u8 0, .int .u8 0, .int .u8 0, .int .u8 0, .int .u8 0, .int .u8 0]
  have hb0 := (Below.refl w.heap.size w).alloc (Nat.le_refl _) (.cells #[.int .u8 0, .int .u8 0, .int .u8 0, .int .u8 0, .int .u8 0, .int .u8 0, .int .u8 0] 78)
  have C1 := Lib.hid b1
  have HB0 := Lib.hid hb0
  clear b1 hb0 hv h1
  go_enter Try.func67, Try.ntmps67
  go_wp2_with fail
  refine (neutral_any _).mono ?_
  rintro e w1 ⟨rfl, b1⟩
  have C1 := Lib.hid (C1.out.below (b1.mono (Nat.le_refl _)))
  have HB1 := Lib.hid (HB0.out.trans (b1.mono (by simp)))
  have hlt1 : w.heap.size < w1.heap.size := C1.out.lt
  have c2 := Blk.new w1 78 #[.int .u8 0, .int .u8 0, .int .u8 0, .int .u8 0, .int .u8 0, .int .u8 0, .int .u8 0]
  have C2 := Lib.hid c2
  clear b1 c2 HB0
  go_wp2_with (refine wpList_store_row rfl 78 _ _ rfl w1.heap.size (u8s (idL 7)) rfl rfl 78 #[.int .u8 0, .int .u8 0, .int .u8 0, .int .u8 0, .int .u8 0, .int .u8 0, .int .u8 0] C2.out (infoElem' (length_idL 7)) rfl (u8s_one _) ?_)
  have D1 := Lib.hid (show Blk _ w1.heap.size 78 (u8s (p.take 0 ++ (idL 7).drop 0)) from Blk.setRow C2.out (u8s (idL 7)))
  have D2 := Lib.hid (show Blk _ w.heap.size 78 _ from (setRow_other _ w1.heap.size w.heap.size (u8s (idL 7)) (by omega)).trans (C1.out.alloc (.cells #[.int .u8 0, .int .u8 0, .int .u8 0, .int .u8 0, .int .u8 0, .int .u8 0, .int .u8 0] 78)))
  have DB := Lib.hid (below_row (HB1.out.alloc (by omega) (.cells #[.int .u8 0, .int .u8 0, .int .u8 0, .int .u8 0, .int .u8 0, .int .u8 0, .int .u8 0] 78)) w1.heap.size (u8s (idL 7)) (by omega))
  clear C1 C2 HB1
  go_loopw [9] (fun i wr => ∃ k : Nat, k ≤ p.length ∧ i = .int .i64 k ∧ Hid (Blk wr w1.heap.size 78 (u8s (p.take k ++ (idL 7).drop k))) ∧ Hid (Blk wr w.heap.size 78 #[.int .u8 0, .int .u8 0, .int .u8 0, .int .u8 0, .int .u8 0, .int .u8 0, .int .u8 0]) ∧ Below w.heap.size w wr) (fun i _ => p.length - (intOf i).toNat)
  case atStart => exact ⟨0, by omega, rfl, D1, D2, DB.out⟩
  case round =>
    clear D1 D2 DB
    obtain ⟨k, hk, rfl, D1, D2, hb⟩ := hrel
    by_cases hlt : k < p.length
    · obtain ⟨a', ca', e1, h1⟩ := (H1.out.below hb)
      rcases h1 with h1 | ⟨b1, o1, rfl, c1⟩
      · simp [h1] at hlt
      cases e1
      obtain ⟨r0, r1⟩ := HIn.out k hlt
      have g1 := c1 k hlt
      have hstep := pk7_step hp7 hlt
      obtain ⟨x, hx⟩ : ∃ x, x = p.getD k 0 := ⟨_, rfl⟩
      rw [← hx] at g1 r0 r1 hstep
      have hl7 : (p.take k ++ (idL 7).drop k).length = 7 := by rw [List.length_append, List.length_take, List.length_drop, length_idL]; omega
      have hset := D1.out.set k (.int .u8 x)
      rw [u8s_set, hstep] at hset
      have hw8 : IntKind.u8.wrap x = x := by simp [IntKind.wrap, IntKind.bits, IntKind.signed]; omega
      have hcur : ∃ u, wr.cell? ⟨w1.heap.size, k, none⟩ = some u := ⟨_, by rw [D1.out.cell k]; exact u8s_get _ k (by omega)⟩
      obtain ⟨u, hcur⟩ := hcur
      have hf := D1.out.free k
      have H3 := Lib.hid hset
      have H4 := Lib.hid (D2.out.other w1.heap.size k (.int .u8 x) (by omega))
      have hk7 : k < 7 := by omega
      clear hset hx hstep c1 D1 D2 hl7
      go_wp2
      go_roundw
      case rel => exact ⟨k + 1, by omega, by go_num, H3, H4, hb.setCell (by show w.heap.size ≤ w1.heap.size; omega) _⟩
      case measure => simp [intOf]; omega
    · have hke : k = p.length := by omega
      have hE7 : Blk wr w1.heap.size 78 (u8s (pk7 p)) := by
        have := D1.out
        rwa [hke, List.take_length] at this
      have hl8 : (pk7 p).length = 7 := length_pk7 hp7
      have hi1 := infoElem' hl8
      have hone := u8s_one (pk7 p)
      have HRow := Lib.hid (D2.out.setRow (u8s (pk7 p)))
      have HB2 := Lib.hid (below_row hb w.heap.size (u8s (pk7 p)) (by omega))
      have hlt' : p.length ≤ k := by omega
      clear hke
      go_wp2_with (first | (refine wpList_load_row rfl 78 _ rfl w1.heap.size rfl 78 (u8s (pk7 p)) (0, 0) _ hE7 Try.underlying78 rfl hi1 ?_) | (refine wpList_store_row rfl 78 _ _ rfl w.heap.size (u8s (pk7 p)) rfl rfl 78 #[.int .u8 0, .int .u8 0, .int .u8 0, .int .u8 0, .int .u8 0, .int .u8 0, .int .u8 0] D2.out hi1 (by rw [size_u8s, hl8]; rfl) hone ?_))
      exact bodyPost_ret (res_elem rfl _ _ w.heap.size (u8s (pk7 p)) rfl HRow.out hi1) rfl ⟨rfl, HB2.out⟩

theorem take_add_get {a : List Int} {k : Nat} (h : k < a.length) : a.take (k + 1) = a.take k ++ [a.getD k 0] := by
  rw [List.take_succ_eq_append_getElem h]; simp [h]

set_option maxHeartbeats 400000 in
/-- the first n images -/
theorem unpack_any (a : List Int) (n : Nat) (w : World) (ha : E7 a) (hn : n ≤ 7) :
    Calls Try.prog 70 #[.agg (u8s a), .int .i64 n] w fun e w' => ∃ v, e = .returned v ∧ Ow w.heap.size w' v (a.take n) ∧ Below w.heap.size w w' := by
  obtain ⟨i0, hi, hz0, hz1, hz2⟩ := info_parts infoInt
  have b1 := Blk.new w 78 (u8s a)
  have hb0 := (Below.refl w.heap.size w).alloc (Nat.le_refl _) (.cells (u8s a) 78)
  have C1 := Lib.hid b1
  have HB0 := Lib.hid hb0
  clear b1 hb0
  go_enter Try.func70, Try.ntmps70
  go_wp2_with (at_make; refine wpList_make_full _ rfl _ _ 32 rfl (w.heap.size + 1) 3 i0 (.int .i64 0) 1 Try.underlying32 hi hz0 hz1 _ _ _ _ n rfl rfl rfl rfl (by rw [hz2]; omega) (by unfold maxLen; omega) (by simp) ?_; intro w1 hown hgrow)
  clear i0 hi hz0 hz1 hz2
  rw [World.size_alloc] at hown
  have HB := Lib.hid (show Blk w1 (w.heap.size + 1) 3 (ints ((a.take n).take 0 ++ List.replicate ((a.take n).length - 0) 0)) from by
    have := blk_of_made hown
    have e : (a.take n).length = n := by rw [List.length_take, ha.1]; omega
    rw [e]; exact this)
  have HG := Below.of_grown hgrow
  rw [World.size_alloc] at HG
  have CA := Lib.hid (C1.out.below (by rw [World.size_alloc]; exact HG))
  have HBB := Lib.hid (HB0.out.trans (HG.mono (by omega)))
  clear hown hgrow HG C1 HB0
  go_wp2
  have hln : (a.take n).length = n := by rw [List.length_take, ha.1]; omega
  have HLN := Lib.hid hln
  rw [hln] at HB
  clear hln
  go_loopw [11] (fun i wr => ∃ k : Nat, k ≤ n ∧ i = .int .i64 k ∧ Hid (Blk wr w.heap.size 78 (u8s a)) ∧ Hid (Blk wr (w.heap.size + 1) 3 (ints ((a.take n).take k ++ List.replicate (n - k) 0))) ∧ Below w.heap.size w wr) (fun i _ => n - (intOf i).toNat)
  case atStart => exact ⟨0, by omega, rfl, CA, HB, HBB.out⟩
  case round =>
    clear CA HB HBB
    obtain ⟨k, hk, rfl, CA, HB, hb⟩ := hrel
    by_cases hlt : k < n
    · have hk7 : k < 7 := by omega
      have g1 := CA.out.cell k
      rw [u8s_get a k (by rw [ha.1]; exact hk7)] at g1
      obtain ⟨x0, x1⟩ := ha.2 k hk7
      obtain ⟨x, hx⟩ : ∃ x, x = a.getD k 0 := ⟨_, rfl⟩
      have hgt : x = (a.take n).getD k 0 := by
        rw [hx, List.getD_eq_getElem?_getD, List.getD_eq_getElem?_getD, List.getElem?_take_of_lt hlt]
      rw [← hx] at g1 x0 x1
      have hst := fill_set (a.take n) k (by rw [HLN.out]; exact hlt) x hgt
      rw [HLN.out] at hst
      have hset := HB.out.set k (.int .i64 x)
      rw [ints_set, hst] at hset
      have hc : ∃ u, wr.cell? ⟨w.heap.size + 1, k, none⟩ = some u := ⟨_, by rw [HB.out.cell k]; exact ints_get _ k (by rw [List.length_append, List.length_take, List.length_replicate, HLN.out]; omega)⟩
      obtain ⟨u, hc⟩ := hc
      have hf := HB.out.free k
      have H3 := Lib.hid hset
      have H4 := Lib.hid (CA.out.other (w.heap.size + 1) k (.int .i64 x) (by omega))
      clear hset hx hst hgt CA HB
      go_wp2
      go_roundw
      case rel => exact ⟨k + 1, by omega, by go_num, H4, H3, hb.setCell (by show w.heap.size ≤ w.heap.size + 1; omega) _⟩
      case measure => simp [intOf]; omega
    · have hke : k = n := by omega
      have hO : Ow w.heap.size wr (.slice (some ⟨w.heap.size + 1, 0, none⟩) n n) (a.take n) := by
        have := HB.out
        rw [hke, Nat.sub_self, List.replicate_zero, List.append_nil, List.take_of_length_le (by rw [HLN.out]; exact Nat.le_refl _)] at this
        exact Ow.of_blk this (by omega) (by rw [HLN.out]; omega) _ HLN.out.symm
      have hlt' : n ≤ k := by omega
      clear hke HB
      go_wp2
      go_ret
      exact ⟨_, rfl, hO, hb⟩

set_option maxRecDepth 100000 in
set_option maxHeartbeats 1000000 in
/-- the commutator -/
theorem commutator_el (a b : List Int) (w : World) (ha : El a) (hE : El b) :
    Calls Try.prog 81 #[.agg (u8s a), .agg (u8s b)] w fun e w' => e = .returned (.agg (u8s (mulL (invL a) (cjTo a b 7)))) ∧ Below w.heap.size w w' := by
  have b1 := Blk.new w 78 (u8s a)
  have b2 := Blk.new (w.alloc (.cells (u8s a) 78)) 78 (u8s b)
  rw [World.size_alloc] at b2
  have b3 := Blk.new ((w.alloc (.cells (u8s a) 78)).alloc (.cells (u8s b) 78)) 78 #[.int .u8 0, .int .u8 0, .int .u8 0, .int .u8 0, .int .u8 0, .int .u8 0, .int .u8 0]
  rw [World.size_alloc, World.size_alloc] at b3
  have hbw := (((Below.refl w.heap.size w).alloc (Nat.le_refl _) (.cells (u8s a) 78)).alloc (by simp) (.cells (u8s b) 78)).alloc (by simp; omega) (.cells #[.int .u8 0, .int .u8 0, .int .u8 0, .int .u8 0, .int .u8 0, .int .u8 0, .int .u8 0] 78)
  have c1 := Lib.hid ((b1.alloc (.cells (u8s b) 78)).alloc (.cells #[.int .u8 0, .int .u8 0, .int .u8 0, .int .u8 0, .int .u8 0, .int .u8 0, .int .u8 0] 78))
  have c2 := Lib.hid (b2.alloc (.cells #[.int .u8 0, .int .u8 0, .int .u8 0, .int .u8 0, .int .u8 0, .int .u8 0, .int .u8 0] 78))
  have c3 := Lib.hid b3
  have HBW := Lib.hid hbw
  clear b1 b2 b3 hbw
  have hinv := (ha.inv).e7
  have hcj : E7 (cjTo a b 7) := by rw [cjTo_eq ha hE]; exact (ha.conj hE).e7
  have hmul : (mulL (invL a) (cjTo a b 7)).length = 7 := by rw [length_mulL]; exact hinv.1
  go_enter Try.func81, Try.ntmps81
  go_wp2
  generalize ((w.alloc (.cells (u8s a) 78)).alloc (.cells (u8s b) 78)).alloc (.cells #[.int .u8 0, .int .u8 0, .int .u8 0, .int .u8 0, .int .u8 0, .int .u8 0, .int .u8 0] 78) = W at *
  refine wp_region_quiet_then (C := fun w' => Below W.heap.size W w') 6 (by kernel_rfl) (by kernel_rfl) (below_drewN' (Below.refl _ _) 1) ?_
  simp only [List.take_succ_cons, List.take_zero, List.drop_succ_cons, List.drop_zero]
  refine wpQuiet_load_row rfl 78 _ rfl (w.heap.size) rfl 78 (u8s a) (0, 0) _ (fun w' hw' => c1.out.below hw') Try.underlying78 rfl (infoElem' ha.2) ?_
  refine wpQuiet_call rfl _ Try.func94 (by kernel_rfl) rfl _ _ rfl #[.agg (u8s a)] rfl (.agg (u8s (invL a))) (fun w' hw' => (inverse_el a w' ha.e7).mono fun e w'' h => ⟨h.1, hw'.trans (h.2.mono hw'.size)⟩) ?_
  refine wpQuiet_load_row rfl 78 _ rfl (w.heap.size) rfl 78 (u8s a) (0, 0) _ (fun w' hw' => c1.out.below hw') Try.underlying78 rfl (infoElem' ha.2) ?_
  refine wpQuiet_load_row rfl 78 _ rfl (w.heap.size + 1) rfl 78 (u8s b) (0, 0) _ (fun w' hw' => c2.out.below hw') Try.underlying78 rfl (infoElem' hE.2) ?_
  refine wpQuiet_call rfl _ Try.func82 (by kernel_rfl) rfl _ _ rfl #[.agg (u8s a), .agg (u8s b)] rfl (.agg (u8s (cjTo a b 7))) (fun w' hw' => (conj_el a b w' ha.e7 hE.e7).mono fun e w'' h => ⟨h.1, hw'.trans (h.2.mono hw'.size)⟩) ?_
  refine wpQuiet_call rfl _ Try.func83 (by kernel_rfl) rfl _ _ rfl #[.agg (u8s (invL a)), .agg (u8s (cjTo a b 7))] rfl (.agg (u8s (mulL (invL a) (cjTo a b 7)))) (fun w' hw' => (times_any (invL a) (cjTo a b 7) w' hinv hcj).mono fun e w'' h => ⟨h.1, hw'.trans (h.2.mono hw'.size)⟩) ?_
  refine wpQuiet_nil ?_
  intro w' hw'
  have hs : w.heap.size + 1 + 1 < W.heap.size := c3.out.lt
  have H3 := c3.out.below hw'
  have HRow := Lib.hid (H3.setRow (u8s (mulL (invL a) (cjTo a b 7))))
  have HB2 := Lib.hid (below_row (HBW.out.trans (hw'.mono (by omega))) (w.heap.size + 1 + 1) (u8s (mulL (invL a) (cjTo a b 7))) (by omega))
  have hi1 := infoElem' hmul
  have hone := u8s_one (mulL (invL a) (cjTo a b 7))
  clear c1 c2 c3 HBW hs hw' hinv hcj
  refine wpList_store_row rfl 78 _ _ rfl (w.heap.size + 1 + 1) (u8s (mulL (invL a) (cjTo a b 7))) rfl rfl 78 #[.int .u8 0, .int .u8 0, .int .u8 0, .int .u8 0, .int .u8 0, .int .u8 0, .int .u8 0] H3 hi1 (by rw [size_u8s, hmul]; rfl) hone ?_
  go_wp2
  exact bodyPost_ret (res_elem rfl _ _ (w.heap.size + 1 + 1) (u8s (mulL (invL a) (cjTo a b 7))) rfl HRow.out hi1) rfl ⟨rfl, HB2.out⟩
end Go.Proofs.Ytjnjhfificpbbaa
namespace Go.Proofs.Ytjnjhfificpbbaa
open Go Go.RowKit

/-- Whatever is picked, the first f picks are of the head; then the rest comes up in one order. -/
def headS (ops hs : Array Oper) (n g : Nat) : Nat → Array Bool → Bool
  | 0, listed => Region.seqB .any ops g n listed
  | f + 1, listed => !decide (Region.ready .any ops listed = []) && (decide (Region.ready .any ops listed = Region.ready .any hs listed) && (Region.ready .any ops listed).all fun i => headS ops hs n g f (listed.setIfInBounds i true))

section
variable {P : Program} {ops hs : Array Oper} {n : Nat} {S : World → Prop} {T : Act → World → Prop} {Q' : Exit → Act → World → Prop}

/-- no way out but the normal one -/
def Only (T : Act → World → Prop) : Exit → Act → World → Prop := fun e a w => e = .normal ∧ T a w
theorem not_lets (h : LetsOut (Only T)) : False := by obtain ⟨a, w, h, _⟩ := h; cases h

theorem wp_only {o : Oper} {a : Act} {w : World} {K : Act → World → Prop} (hh : o.wp P a w K (Only T)) : o.wp P a w K Q' := by
  unfold Oper.wp at *
  generalize (execOp a.eval o).run P w = r at *
  cases r with
  | ok n w' =>
    cases n <;> simp only [Oper.upon] at hh ⊢
    case value u => exact hh
    case skip => exact hh
    case defer d => exact hh
    case enter f args =>
      refine Calls.mono hh fun e w'' he => ?_
      cases e with
      | returned v => exact he
      | panicked c => cases he.1
      | outgrown => exact (not_lets he).elim
    case row row args => exact hh
  | halt x w' =>
    cases x <;> simp only [Oper.upon] at hh ⊢
    case panic u => cases hh.1

theorem any_of_held (hg : ∀ (i : Nat) (o : Oper), hs[i]? = some o → ops[i]? = some o ∧ o.guard = none) {g : Nat} (hT : ∀ listed a w, Region.seqB .any ops g n listed = true → T a w → wpAny P .any ops Q' g listed a w) :
    ∀ (f : Nat) (listed : Array Bool) (a : Act) (w : World), headS ops hs n g f listed = true → wpAnyH P .any hs (Only T) S f listed a w → wpAny P .any ops Q' (f + g) listed a w
  | 0, listed, a, w, hB, h => by rw [Nat.zero_add]; exact hT _ _ _ hB h.2.2
  | f + 1, listed, a, w, hB, h => by
    simp only [headS, Bool.and_eq_true, Bool.not_eq_true', decide_eq_true_eq, decide_eq_false_iff_not] at hB
    obtain ⟨hne, heq, hall⟩ := hB
    rw [show f + 1 + g = (f + g) + 1 by omega]
    refine ⟨fun h0 => absurd h0 hne, fun i hi => ?_⟩
    have hB' := List.all_eq_true.1 hall i hi
    have hi' : i ∈ Region.ready .any hs listed := by rw [← heq]; exact hi
    obtain ⟨_, o, ho, _⟩ := mem_ready.1 hi'
    obtain ⟨ho', hgd⟩ := hg i o ho
    have h1 := h.2 i hi'
    have e1 : Region.wanted o (yielded hs a.tmps) = true := by simp [Region.wanted, hgd]
    have e2 : Region.wanted o (yielded ops a.tmps) = true := by simp [Region.wanted, hgd]
    unfold wpOp at h1 ⊢
    simp only [ho, e1, if_true] at h1
    simp only [ho', e2, if_true]
    rcases h1 with h1 | ⟨_, h1⟩
    · exact .inl (Oper.wp_mono (fun a' w' hK => any_of_held hg hT f _ a' w' hB' hK.2) (wp_only h1))
    · exact (not_lets h1).elim

/-- What the kernel checks of the region. -/
def thenS (l : List Oper) (n : Nat) : Bool :=
  decide (n ≤ l.length) && (headS l.toArray (l.take n).toArray n (l.length - n) n (Array.replicate l.length false) && (l.take n).all (·.guard.isNone))

theorem wp_region_held_then {id : Nat} {a : Act} {w : World} {l : List Oper} (n : Nat) (hm : P.follows .mixedOrders = true) (hB : thenS l n = true)
    (h : wpAnyH P .any (l.take n).toArray (Only fun a' w' => wpList P l.toArray Q' (l.drop n) a' w') S n (Array.replicate l.length false) a w.drew) : (Code.region id l.toArray true).wp P Q' a w := by
  simp only [thenS, Bool.and_eq_true, decide_eq_true_eq] at hB
  obtain ⟨hn, hh, hgd⟩ := hB
  have hdl : (l.drop n).length = l.length - n := List.length_drop
  refine wp_region_any hm ?_
  have := any_of_held (ops := l.toArray) (Q' := Q') (n := n) (g := l.length - n) (fun i o ho => ?_) (fun listed a' w' hs ht => ?_) n _ a w.drew hh h
  · rw [show l.toArray.size = n + (l.length - n) by simp; omega]
    rw [show n + (l.length - n) = l.length by omega] at this ⊢
    exact this
  · have hi : i < n := by
      have := (Array.getElem?_eq_some_iff.1 ho).1
      simp at this; omega
    have e : l[i]? = some o := by
      have : (l.take n)[i]? = some o := by simpa using ho
      rwa [List.getElem?_take_of_lt hi] at this
    refine ⟨by simpa using e, ?_⟩
    have hm : o ∈ l.take n := List.mem_of_getElem? (by simpa using ho)
    have := List.all_eq_true.1 hgd o hm
    simpa using this
  · have := wpAny_of_seq (md := .any) (Q' := Q') (l.drop n) n listed a' w' (fun j => by simp [List.getElem?_drop]) (by rw [hdl]; exact hs) ht
    rwa [hdl] at this

/-- take number i first: what it yields while S holds -/
theorem held_take {i : Nat} {oi : Oper} {v : Value} {fuel : Nat} {listed : Array Bool} {a : Act} {w : World} (hi : ops[i]? = some oi) (hg : oi.guard = none)
    (hs : Region.noSelect ops = true) (hf : Region.free .any ops listed i = true) (hr : (Region.ready .any ops listed).contains i = true)
    (hy : ∀ w, S w → (execOp a.eval oi).run P w = .ok (.value v) w) (hS : S w)
    (h : wpAnyH P .any ops (Only T) S fuel (listed.setIfInBounds i true) (a.put oi.dst v) w) : wpAnyH P .any ops (Only T) S (fuel + 1) listed a w :=
  wpAnyH_take hi hs hf hr (fun _ _ _ h => by cases h.1) (.inl ⟨by simp [Region.wanted, hg], hy⟩) hS h

/-- the one that may come up, whatever it does -/
theorem held_only {i : Nat} {oi : Oper} {fuel : Nat} {listed : Array Bool} {a : Act} {w : World} (hi : ops[i]? = some oi) (hg : oi.guard = none) (hr : Region.ready .any ops listed = [i])
    (h : oi.wp P a w (fun a' w' => S w' ∧ wpAnyH P .any ops (Only T) S fuel (listed.setIfInBounds i true) a' w') (Only T)) : wpAnyH P .any ops (Only T) S (fuel + 1) listed a w := by
  refine wpAnyH_all hr (by simp) (fun j hj => ?_)
  have e : j = i := by simpa using hj
  subst e
  have e1 : Region.wanted oi (yielded ops a.tmps) = true := by simp [Region.wanted, hg]
  unfold wpOp
  simp only [hi, e1, if_true]
  exact .inl h
theorem held_done {listed : Array Bool} {a : Act} {w : World} (hr : Region.ready .any ops listed = []) (h : T a w) : wpAnyH P .any ops (Only T) S 0 listed a w := ⟨hr, rfl, h⟩
end
end Go.Proofs.Ytjnjhfificpbbaa
