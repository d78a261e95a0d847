/- package group's elements: arrays of seven images. -/
import Derived.Test.YtdcilefiacohnaaProg
import Derived.Test.YtdcilefiacohnaaBase
import Derived.Test.YtdcilefiacohnaaLists
import Derived.Test.YtdcilefiacohnaaAlg
import Derived.Test.YtdcilefiacohnaaMul
import Derived.Laws.Rows
import Derived.Laws.Tables
namespace Go.Proofs.Ytdcilefiacohnaa
open Go.RowKit

/-- the cells of an array of small numbers -/
def u8s (l : List Int) : Array Value := (l.map (Value.int .u8)).toArray
theorem u8s_get (l : List Int) (i : Nat) (h : i < l.length) : (u8s l)[i]? = some (.int .u8 (l.getD i 0)) := by simp [u8s, h]
theorem u8s_set (l : List Int) (i : Nat) (x : Int) : (u8s l).setIfInBounds i (.int .u8 x) = u8s (l.set i x) := by simp [u8s, List.map_set]
theorem size_u8s (l : List Int) : (u8s l).size = l.length := by simp [u8s]
theorem u8s_zero : u8s (List.replicate 7 0) = #[.int .u8 0, .int .u8 0, .int .u8 0, .int .u8 0, .int .u8 0, .int .u8 0, .int .u8 0] := rfl
theorem u8s_one (l : List Int) : (u8s l).all (·.oneCell') = true := by
  rw [Array.all_eq_true]
  intro i hi
  simp [u8s, Value.oneCell']
theorem infoElem : (Try.prog.info? 78).map (·.size) = some 7 := by kernel_rfl
theorem infoElem' {l : List Int} (h : l.length = 7) : (Try.prog.info? 78).map (·.size) = some (u8s l).size := by rw [size_u8s, h]; exact infoElem

/-- the result of a function that hands back an array -/
theorem res_elem {fn : Func} {p : Tmp} (h : fn.results = #[.cell p 78]) (tmps : Array Value) (W : World) (b : Nat) (cs : Array Value) (hp : tmps.getD p undef = .pointer (some ⟨b, 0, none⟩)) (hb : Blk W b 78 cs) (hs : (Try.prog.info? 78).map (·.size) = some cs.size) :
    (results fn tmps).run Try.prog W = .ok (.agg cs) W := results_cell_row h tmps W b 78 cs (0, 0) _ hp hb Try.underlying78 rfl hs

theorem Blk.setRow {w : World} {b : Nat} {t : TypeId} {cs : Array Value} (h : Blk w b t cs) (ds : Array Value) : Blk (w.setRow b ds) b t ds := setRow_heap w b cs ds t (0, 0) h
theorem below_row {n : Nat} {a w : World} (h : Below n a w) (b : Nat) (cs : Array Value) (hb : n ≤ b) : Below n a (w.setRow b cs) :=
  ⟨h.os, h.tape, h.output, by rw [size_setRow]; exact h.size, fun k hk => (setRow_other w b k cs (by omega)).trans (h.block k hk)⟩
/-- seven numbers from 0 to 6 -/
def E7 (l : List Int) : Prop := l.length = 7 ∧ ∀ k, k < 7 → 0 ≤ l.getD k 0 ∧ l.getD k 0 < 7
theorem E7_valid {l : List Int} (h : validL l = true) (h7 : l.length = 7) : E7 l := ⟨h7, fun k hk => by
  have := inR_of_valid h k (by omega)
  rw [h7] at this
  exact this⟩
theorem getD_in {l : List Int} (h : E7 l) {x : Int} (h0 : 0 ≤ x) (h1 : x < 7) : ∃ n : Nat, n < 7 ∧ x = n ∧ 0 ≤ l.getD n 0 ∧ l.getD n 0 < 7 := by
  obtain ⟨n, rfl⟩ := Int.eq_ofNat_of_zero_le h0
  exact ⟨n, by omega, rfl, h.2 n (by omega)⟩

theorem fill7 {L : List Int} (hL : L.length = 7) {k : Nat} (hk : k < 7) {x : Int} (hx : x = L.getD k 0) : (L.take k ++ List.replicate (7 - k) 0).set k x = L.take (k + 1) ++ List.replicate (7 - (k + 1)) 0 := by
  have := fill_set L k (by omega) x hx
  rwa [hL] at this

set_option maxRecDepth 100000 in
set_option maxHeartbeats 1000000 in
theorem neutral_any (w : World) :
    Calls Try.prog 89 #[] w fun e w' => e = .returned (.agg (u8s (idL 7))) ∧ Below w.heap.size w w' := by
  have hE := Blk.new (w.alloc (.cells #[.int .u8 0, .int .u8 0, .int .u8 0, .int .u8 0, .int .u8 0, .int .u8 0, .int .u8 0] 78)) 78 #[.int .u8 0, .int .u8 0, .int .u8 0, .int .u8 0, .int .u8 0, .int .u8 0, .int .u8 0]
  rw [World.size_alloc] at hE
  have hR := (Blk.new w 78 #[.int .u8 0, .int .u8 0, .int .u8 0, .int .u8 0, .int .u8 0, .int .u8 0, .int .u8 0]).alloc (.cells #[.int .u8 0, .int .u8 0, .int .u8 0, .int .u8 0, .int .u8 0, .int .u8 0, .int .u8 0] 78)
  have hb := ((Below.refl w.heap.size w).alloc (Nat.le_refl _) (.cells #[.int .u8 0, .int .u8 0, .int .u8 0, .int .u8 0, .int .u8 0, .int .u8 0, .int .u8 0] 78)).alloc (by simp) (.cells #[.int .u8 0, .int .u8 0, .int .u8 0, .int .u8 0, .int .u8 0, .int .u8 0, .int .u8 0] 78)
  have HE := Lib.hid hE
  have HR := Lib.hid hR
  have HB := Lib.hid hb
  clear hE hR hb
  go_enter Try.func89, Try.ntmps89
  go_wp2
  go_loopw [3] (fun i wr => ∃ k : Nat, k ≤ 7 ∧ i = .int .i64 k ∧ Hid (Blk wr (w.heap.size + 1) 78 (u8s ((idL 7).take k ++ List.replicate (7 - k) 0))) ∧ Hid (Blk wr w.heap.size 78 #[.int .u8 0, .int .u8 0, .int .u8 0, .int .u8 0, .int .u8 0, .int .u8 0, .int .u8 0]) ∧ Below w.heap.size w wr) (fun i _ => 7 - (intOf i).toNat)
  case atStart => exact ⟨0, by omega, rfl, HE, HR, HB.out⟩
  case round =>
    clear HE HR HB
    obtain ⟨k, hk, rfl, hE, hR, hb⟩ := hrel
    by_cases hlt : k < 7
    · have hset := hE.out.set k (.int .u8 k)
      rw [u8s_set, fill7 (length_idL 7) hlt (idL_get 7 k hlt).symm] at hset
      have hcur : ∃ u, wr.cell? ⟨w.heap.size + 1, k, none⟩ = some u := ⟨_, by rw [hE.out.cell k]; exact u8s_get _ k (by simp [length_idL]; omega)⟩
      obtain ⟨u, hcur⟩ := hcur
      have hf := hE.out.free k
      have HS := Lib.hid hset
      have HR2 := Lib.hid (hR.out.other (w.heap.size + 1) k (.int .u8 k) (by omega))
      clear hset
      go_wp2
      go_roundw
      case rel => exact ⟨k + 1, by omega, by go_num, HS, HR2, hb.setCell (by show w.heap.size ≤ w.heap.size + 1; omega) _⟩
      case measure => simp [intOf]; omega
    · obtain rfl : k = 7 := by omega
      have hE7 : Blk wr (w.heap.size + 1) 78 (u8s (idL 7)) := by
        have := hE.out
        rwa [Nat.sub_self, List.replicate_zero, List.append_nil, List.take_of_length_le (by rw [length_idL]; exact Nat.le_refl _)] at this
      have hi1 := infoElem' (length_idL 7)
      have hone := u8s_one (idL 7)
      have HRow := Lib.hid (hR.out.setRow (u8s (idL 7)))
      have HB2 := Lib.hid (below_row hb w.heap.size (u8s (idL 7)) (Nat.le_refl _))
      go_wp2_with (first | (refine wpList_load_row rfl 78 _ rfl (w.heap.size + 1) rfl 78 (u8s (idL 7)) (0, 0) _ hE7 Try.underlying78 rfl hi1 ?_) | (refine wpList_store_row rfl 78 _ _ rfl w.heap.size (u8s (idL 7)) rfl rfl 78 #[.int .u8 0, .int .u8 0, .int .u8 0, .int .u8 0, .int .u8 0, .int .u8 0, .int .u8 0] hR.out hi1 (by rw [size_u8s, length_idL]; rfl) hone ?_))
      exact bodyPost_ret (res_elem rfl _ _ w.heap.size (u8s (idL 7)) rfl HRow.out hi1) rfl ⟨rfl, HB2.out⟩

theorem zero_el : Value.agg (u8s (List.replicate 7 0)) = .agg #[.int .u8 0, .int .u8 0, .int .u8 0, .int .u8 0, .int .u8 0, .int .u8 0, .int .u8 0] := rfl

theorem run_index_el {l : List Int} (h : l.length = 7) (k : Nat) (hk : k < 7) (w : World) : (Instr.index 78 (.agg (u8s l)) (.int .i64 k)).run Try.prog w = .ok (.int .u8 (l.getD k 0)) w := by
  match l, h with
  | [x0, x1, x2, x3, x4, x5, x6], _ =>
    match k, hk with
    | 0, _ => show _ = _; kernel_rfl
    | 1, _ => show _ = _; kernel_rfl
    | 2, _ => show _ = _; kernel_rfl
    | 3, _ => show _ = _; kernel_rfl
    | 4, _ => show _ = _; kernel_rfl
    | 5, _ => show _ = _; kernel_rfl
    | 6, _ => show _ = _; kernel_rfl

set_option maxRecDepth 100000 in
set_option maxHeartbeats 1000000 in
theorem times_any (a b : List Int) (w : World) (ha : E7 a) (hE : E7 b) :
    Calls Try.prog 83 #[.agg (u8s a), .agg (u8s b)] w fun e w' => e = .returned (.agg (u8s (mulL a b))) ∧ Below w.heap.size w w' := by
  have b1 := Blk.new w 78 (u8s a)
  have b2 := Blk.new (w.alloc (.cells (u8s a) 78)) 78 (u8s b)
  rw [World.size_alloc] at b2
  have b3 := Blk.new ((w.alloc (.cells (u8s a) 78)).alloc (.cells (u8s b) 78)) 78 #[.int .u8 0, .int .u8 0, .int .u8 0, .int .u8 0, .int .u8 0, .int .u8 0, .int .u8 0]
  rw [World.size_alloc, World.size_alloc] at b3
  have b4 := Blk.new (((w.alloc (.cells (u8s a) 78)).alloc (.cells (u8s b) 78)).alloc (.cells #[.int .u8 0, .int .u8 0, .int .u8 0, .int .u8 0, .int .u8 0, .int .u8 0, .int .u8 0] 78)) 78 #[.int .u8 0, .int .u8 0, .int .u8 0, .int .u8 0, .int .u8 0, .int .u8 0, .int .u8 0]
  rw [World.size_alloc, World.size_alloc, World.size_alloc] at b4
  have hbw := ((((Below.refl w.heap.size w).alloc (Nat.le_refl _) (.cells (u8s a) 78)).alloc (by simp) (.cells (u8s b) 78)).alloc (by simp; omega) (.cells #[.int .u8 0, .int .u8 0, .int .u8 0, .int .u8 0, .int .u8 0, .int .u8 0, .int .u8 0] 78)).alloc (by simp; omega) (.cells #[.int .u8 0, .int .u8 0, .int .u8 0, .int .u8 0, .int .u8 0, .int .u8 0, .int .u8 0] 78)
  have c1 := Lib.hid (((b1.alloc (.cells (u8s b) 78)).alloc (.cells #[.int .u8 0, .int .u8 0, .int .u8 0, .int .u8 0, .int .u8 0, .int .u8 0, .int .u8 0] 78)).alloc (.cells #[.int .u8 0, .int .u8 0, .int .u8 0, .int .u8 0, .int .u8 0, .int .u8 0, .int .u8 0] 78))
  have c2 := Lib.hid ((b2.alloc (.cells #[.int .u8 0, .int .u8 0, .int .u8 0, .int .u8 0, .int .u8 0, .int .u8 0, .int .u8 0] 78)).alloc (.cells #[.int .u8 0, .int .u8 0, .int .u8 0, .int .u8 0, .int .u8 0, .int .u8 0, .int .u8 0] 78))
  have c3 := Lib.hid (b3.alloc (.cells #[.int .u8 0, .int .u8 0, .int .u8 0, .int .u8 0, .int .u8 0, .int .u8 0, .int .u8 0] 78))
  have c4 := Lib.hid b4
  have HBW := Lib.hid hbw
  clear b1 b2 b3 b4 hbw
  go_enter Try.func83, Try.ntmps83
  go_wp2_with (refine wpList_load_row rfl 78 _ rfl w.heap.size rfl 78 (u8s a) (0, 0) _ c1.out Try.underlying78 rfl (infoElem' ha.1) ?_)
  have hlm := length_mulL a b
  go_loopw [9] (fun i wr => ∃ k : Nat, k ≤ 7 ∧ i = .int .i64 k ∧ Hid (Blk wr (w.heap.size + 1) 78 (u8s b)) ∧ Hid (Blk wr (w.heap.size + 1 + 1) 78 #[.int .u8 0, .int .u8 0, .int .u8 0, .int .u8 0, .int .u8 0, .int .u8 0, .int .u8 0]) ∧ Hid (Blk wr (w.heap.size + 1 + 1 + 1) 78 (u8s ((mulL a b).take k ++ List.replicate (7 - k) 0))) ∧ Below w.heap.size w wr) (fun i _ => 7 - (intOf i).toNat)
  case atStart => exact ⟨0, by omega, rfl, c2, c3, c4, HBW.out⟩
  case round =>
    clear c1 c2 c3 c4 HBW
    obtain ⟨k, hk, rfl, h2, h3, h4, hb⟩ := hrel
    by_cases hlt : k < 7
    · have hix := run_index_el ha.1 k hlt
      obtain ⟨x0, x1⟩ := ha.2 k hlt
      have hget := mulL_get a b k (by rw [ha.1]; exact hlt)
      obtain ⟨x, hx⟩ : ∃ x, x = a.getD k 0 := ⟨_, rfl⟩
      rw [← hx] at hix x0 x1 hget
      obtain ⟨n, rfl⟩ := Int.eq_ofNat_of_zero_le x0
      have hn7 : n < 7 := by omega
      have g2 := h2.out.cell n
      rw [u8s_get b n (by rw [hE.1]; exact hn7)] at g2
      obtain ⟨y, hy⟩ : ∃ y, y = b.getD n 0 := ⟨_, rfl⟩
      rw [← hy] at g2
      have hset := h4.out.set k (.int .u8 y)
      rw [u8s_set, fill7 (hlm.trans ha.1) hlt (by rw [hget, hy]; rfl)] at hset
      have hcur : ∃ u, wr.cell? ⟨w.heap.size + 1 + 1 + 1, k, none⟩ = some u := ⟨_, by rw [h4.out.cell k]; exact u8s_get _ k (by simp [hlm, ha.1]; omega)⟩
      obtain ⟨u, hcur⟩ := hcur
      have hf := h4.out.free k
      have H4 := Lib.hid hset
      have H2 := Lib.hid (h2.out.other (w.heap.size + 1 + 1 + 1) k (.int .u8 y) (by omega))
      have H3 := Lib.hid (h3.out.other (w.heap.size + 1 + 1 + 1) k (.int .u8 y) (by omega))
      clear hset hget hx hy
      go_wp2
      go_roundw
      case rel => exact ⟨k + 1, by omega, by go_num, H2, H3, H4, hb.setCell (by show w.heap.size ≤ w.heap.size + 1 + 1 + 1; omega) _⟩
      case measure => simp [intOf]; omega
    · obtain rfl : k = 7 := by omega
      have hE7 : Blk wr (w.heap.size + 1 + 1 + 1) 78 (u8s (mulL a b)) := by
        have := h4.out
        rwa [Nat.sub_self, List.replicate_zero, List.append_nil, List.take_of_length_le (by rw [hlm, ha.1]; exact Nat.le_refl _)] at this
      have hl7 : (mulL a b).length = 7 := hlm.trans ha.1
      have hi1 := infoElem' hl7
      have hone := u8s_one (mulL a b)
      have HRow := Lib.hid (h3.out.setRow (u8s (mulL a b)))
      have HB2 := Lib.hid (below_row hb (w.heap.size + 1 + 1) (u8s (mulL a b)) (by omega))
      go_wp2_with (first | (refine wpList_load_row rfl 78 _ rfl (w.heap.size + 1 + 1 + 1) rfl 78 (u8s (mulL a b)) (0, 0) _ hE7 Try.underlying78 rfl hi1 ?_) | (refine wpList_store_row rfl 78 _ _ rfl (w.heap.size + 1 + 1) (u8s (mulL a b)) rfl rfl 78 #[.int .u8 0, .int .u8 0, .int .u8 0, .int .u8 0, .int .u8 0, .int .u8 0, .int .u8 0] h3.out hi1 (by rw [size_u8s, hl7]; rfl) hone ?_))
      exact bodyPost_ret (res_elem rfl _ _ (w.heap.size + 1 + 1) (u8s (mulL a b)) rfl HRow.out hi1) rfl ⟨rfl, HB2.out⟩

theorem invTo_get7 {a : List Int} (h : a.length = 7) (k : Nat) : (invTo a k).length = 7 := by rw [length_invTo, h]

set_option maxRecDepth 100000 in
set_option maxHeartbeats 1000000 in
theorem inverse_el (a : List Int) (w : World) (ha : E7 a) :
    Calls Try.prog 94 #[.agg (u8s a)] w fun e w' => e = .returned (.agg (u8s (invL a))) ∧ Below w.heap.size w w' := by
  have b1 := Blk.new w 78 (u8s a)
  have b3 := Blk.new (w.alloc (.cells (u8s a) 78)) 78 #[.int .u8 0, .int .u8 0, .int .u8 0, .int .u8 0, .int .u8 0, .int .u8 0, .int .u8 0]
  rw [World.size_alloc] at b3
  have b4 := Blk.new ((w.alloc (.cells (u8s a) 78)).alloc (.cells #[.int .u8 0, .int .u8 0, .int .u8 0, .int .u8 0, .int .u8 0, .int .u8 0, .int .u8 0] 78)) 78 #[.int .u8 0, .int .u8 0, .int .u8 0, .int .u8 0, .int .u8 0, .int .u8 0, .int .u8 0]
  rw [World.size_alloc, World.size_alloc] at b4
  have hbw := (((Below.refl w.heap.size w).alloc (Nat.le_refl _) (.cells (u8s a) 78)).alloc (by simp) (.cells #[.int .u8 0, .int .u8 0, .int .u8 0, .int .u8 0, .int .u8 0, .int .u8 0, .int .u8 0] 78)).alloc (by simp; omega) (.cells #[.int .u8 0, .int .u8 0, .int .u8 0, .int .u8 0, .int .u8 0, .int .u8 0, .int .u8 0] 78)
  have c1 := Lib.hid ((b1.alloc (.cells #[.int .u8 0, .int .u8 0, .int .u8 0, .int .u8 0, .int .u8 0, .int .u8 0, .int .u8 0] 78)).alloc (.cells #[.int .u8 0, .int .u8 0, .int .u8 0, .int .u8 0, .int .u8 0, .int .u8 0, .int .u8 0] 78))
  have c3 := Lib.hid (b3.alloc (.cells #[.int .u8 0, .int .u8 0, .int .u8 0, .int .u8 0, .int .u8 0, .int .u8 0, .int .u8 0] 78))
  have c4 := Lib.hid (show Blk _ (w.heap.size + 1 + 1) 78 (u8s (invTo a 0)) from by rw [invTo, ha.1]; exact b4)
  have HBW := Lib.hid hbw
  clear b1 b3 b4 hbw
  go_enter Try.func94, Try.ntmps94
  go_wp2_with (refine wpList_load_row rfl 78 _ rfl w.heap.size rfl 78 (u8s a) (0, 0) _ c1.out Try.underlying78 rfl (infoElem' ha.1) ?_)
  go_loopw [7] (fun i wr => ∃ k : Nat, k ≤ 7 ∧ i = .int .i64 k ∧ Hid (Blk wr (w.heap.size + 1) 78 #[.int .u8 0, .int .u8 0, .int .u8 0, .int .u8 0, .int .u8 0, .int .u8 0, .int .u8 0]) ∧ Hid (Blk wr (w.heap.size + 1 + 1) 78 (u8s (invTo a k))) ∧ Below w.heap.size w wr) (fun i _ => 7 - (intOf i).toNat)
  case atStart => exact ⟨0, by omega, rfl, c3, c4, HBW.out⟩
  case round =>
    clear c1 c3 c4 HBW
    obtain ⟨k, hk, rfl, h3, h4, hb⟩ := hrel
    have hl7 := invTo_get7 ha.1 k
    by_cases hlt : k < 7
    · have hix := run_index_el ha.1 k hlt
      obtain ⟨x0, x1⟩ := ha.2 k hlt
      have hstep : invTo a (k + 1) = (invTo a k).set (a.getD k 0).toNat k := rfl
      obtain ⟨x, hx⟩ : ∃ x, x = a.getD k 0 := ⟨_, rfl⟩
      rw [← hx] at hix x0 x1 hstep
      obtain ⟨n, rfl⟩ := Int.eq_ofNat_of_zero_le x0
      have hn7 : n < 7 := by omega
      have hset := h4.out.set n (.int .u8 k)
      rw [u8s_set] at hset
      have hcur : ∃ u, wr.cell? ⟨w.heap.size + 1 + 1, n, none⟩ = some u := ⟨_, by rw [h4.out.cell n]; exact u8s_get _ n (by omega)⟩
      obtain ⟨u, hcur⟩ := hcur
      have hf := h4.out.free n
      have H4 := Lib.hid (show Blk _ _ _ (u8s (invTo a (k + 1))) from by rw [hstep]; exact hset)
      have H3 := Lib.hid (h3.out.other (w.heap.size + 1 + 1) n (.int .u8 k) (by omega))
      clear hset hx hstep
      go_wp2
      go_roundw
      case rel => exact ⟨k + 1, by omega, by go_num, H3, H4, hb.setCell (by show w.heap.size ≤ w.heap.size + 1 + 1; omega) _⟩
      case measure => simp [intOf]; omega
    · obtain rfl : k = 7 := by omega
      have hE7 : Blk wr (w.heap.size + 1 + 1) 78 (u8s (invL a)) := by
        have := h4.out
        rwa [show invTo a 7 = invL a from by unfold invL; rw [ha.1]] at this
      have hl8 : (invL a).length = 7 := (length_invL a).trans ha.1
      have hi1 := infoElem' hl8
      have hone := u8s_one (invL a)
      have HRow := Lib.hid (h3.out.setRow (u8s (invL a)))
      have HB2 := Lib.hid (below_row hb (w.heap.size + 1) (u8s (invL a)) (by omega))
      go_wp2_with (first | (refine wpList_load_row rfl 78 _ rfl (w.heap.size + 1 + 1) rfl 78 (u8s (invL a)) (0, 0) _ hE7 Try.underlying78 rfl hi1 ?_) | (refine wpList_store_row rfl 78 _ _ rfl (w.heap.size + 1) (u8s (invL a)) rfl rfl 78 #[.int .u8 0, .int .u8 0, .int .u8 0, .int .u8 0, .int .u8 0, .int .u8 0, .int .u8 0] h3.out hi1 (by rw [size_u8s, hl8]; rfl) hone ?_))
      exact bodyPost_ret (res_elem rfl _ _ (w.heap.size + 1) (u8s (invL a)) rfl HRow.out hi1) rfl ⟨rfl, HB2.out⟩

/-- the steps of conjugation: the image of by[i] is by[a[i]] -/
def cjTo (a b : List Int) : Nat → List Int
  | 0 => List.replicate 7 0
  | k + 1 => (cjTo a b k).set (b.getD k 0).toNat (b.getD (a.getD k 0).toNat 0)
theorem length_cjTo (a b : List Int) (k : Nat) : (cjTo a b k).length = 7 := by
  induction k with
  | zero => simp [cjTo]
  | succ k ih => rw [cjTo, List.length_set, ih]

set_option maxRecDepth 100000 in
set_option maxHeartbeats 1000000 in
theorem conj_el (a b : List Int) (w : World) (ha : E7 a) (hE : E7 b) :
    Calls Try.prog 82 #[.agg (u8s a), .agg (u8s b)] w fun e w' => e = .returned (.agg (u8s (cjTo a b 7))) ∧ Below w.heap.size w w' := by
  have b1 := Blk.new w 78 (u8s a)
  have b2 := Blk.new (w.alloc (.cells (u8s a) 78)) 78 (u8s b)
  rw [World.size_alloc] at b2
  have b3 := Blk.new ((w.alloc (.cells (u8s a) 78)).alloc (.cells (u8s b) 78)) 78 #[.int .u8 0, .int .u8 0, .int .u8 0, .int .u8 0, .int .u8 0, .int .u8 0, .int .u8 0]
  rw [World.size_alloc, World.size_alloc] at b3
  have b4 := Blk.new (((w.alloc (.cells (u8s a) 78)).alloc (.cells (u8s b) 78)).alloc (.cells #[.int .u8 0, .int .u8 0, .int .u8 0, .int .u8 0, .int .u8 0, .int .u8 0, .int .u8 0] 78)) 78 #[.int .u8 0, .int .u8 0, .int .u8 0, .int .u8 0, .int .u8 0, .int .u8 0, .int .u8 0]
  rw [World.size_alloc, World.size_alloc, World.size_alloc] at b4
  have hbw := ((((Below.refl w.heap.size w).alloc (Nat.le_refl _) (.cells (u8s a) 78)).alloc (by simp) (.cells (u8s b) 78)).alloc (by simp; omega) (.cells #[.int .u8 0, .int .u8 0, .int .u8 0, .int .u8 0, .int .u8 0, .int .u8 0, .int .u8 0] 78)).alloc (by simp; omega) (.cells #[.int .u8 0, .int .u8 0, .int .u8 0, .int .u8 0, .int .u8 0, .int .u8 0, .int .u8 0] 78)
  have c1 := Lib.hid (((b1.alloc (.cells (u8s b) 78)).alloc (.cells #[.int .u8 0, .int .u8 0, .int .u8 0, .int .u8 0, .int .u8 0, .int .u8 0, .int .u8 0] 78)).alloc (.cells #[.int .u8 0, .int .u8 0, .int .u8 0, .int .u8 0, .int .u8 0, .int .u8 0, .int .u8 0] 78))
  have c2 := Lib.hid ((b2.alloc (.cells #[.int .u8 0, .int .u8 0, .int .u8 0, .int .u8 0, .int .u8 0, .int .u8 0, .int .u8 0] 78)).alloc (.cells #[.int .u8 0, .int .u8 0, .int .u8 0, .int .u8 0, .int .u8 0, .int .u8 0, .int .u8 0] 78))
  have c3 := Lib.hid (b3.alloc (.cells #[.int .u8 0, .int .u8 0, .int .u8 0, .int .u8 0, .int .u8 0, .int .u8 0, .int .u8 0] 78))
  have c4 := Lib.hid b4
  have HBW := Lib.hid hbw
  clear b1 b2 b3 b4 hbw
  go_enter Try.func82, Try.ntmps82
  go_wp2_with (refine wpList_load_row rfl 78 _ rfl (w.heap.size + 1) rfl 78 (u8s b) (0, 0) _ c2.out Try.underlying78 rfl (infoElem' hE.1) ?_)
  go_loopw [9] (fun i wr => ∃ k : Nat, k ≤ 7 ∧ i = .int .i64 k ∧ Hid (Blk wr w.heap.size 78 (u8s a)) ∧ Hid (Blk wr (w.heap.size + 1) 78 (u8s b)) ∧ Hid (Blk wr (w.heap.size + 1 + 1) 78 #[.int .u8 0, .int .u8 0, .int .u8 0, .int .u8 0, .int .u8 0, .int .u8 0, .int .u8 0]) ∧ Hid (Blk wr (w.heap.size + 1 + 1 + 1) 78 (u8s (cjTo a b k))) ∧ Below w.heap.size w wr) (fun i _ => 7 - (intOf i).toNat)
  case atStart => exact ⟨0, by omega, rfl, c1, c2, c3, c4, HBW.out⟩
  case round =>
    clear c1 c2 c3 c4 HBW
    obtain ⟨k, hk, rfl, h1, h2, h3, h4, hb⟩ := hrel
    have hl7 := length_cjTo a b k
    by_cases hlt : k < 7
    · have hix := run_index_el hE.1 k hlt
      obtain ⟨x0, x1⟩ := hE.2 k hlt
      obtain ⟨y0, y1⟩ := ha.2 k hlt
      have hstep : cjTo a b (k + 1) = (cjTo a b k).set (b.getD k 0).toNat (b.getD (a.getD k 0).toNat 0) := rfl
      obtain ⟨x, hx⟩ : ∃ x, x = b.getD k 0 := ⟨_, rfl⟩
      rw [← hx] at hix x0 x1 hstep
      obtain ⟨n, rfl⟩ := Int.eq_ofNat_of_zero_le x0
      have hn7 : n < 7 := by omega
      have g1 := h1.out.cell k
      rw [u8s_get a k (by rw [ha.1]; exact hlt)] at g1
      obtain ⟨y, hy⟩ : ∃ y, y = a.getD k 0 := ⟨_, rfl⟩
      rw [← hy] at g1 y0 y1 hstep
      obtain ⟨m, rfl⟩ := Int.eq_ofNat_of_zero_le y0
      have hm7 : m < 7 := by omega
      have g2 := h2.out.cell m
      rw [u8s_get b m (by rw [hE.1]; exact hm7)] at g2
      obtain ⟨z, hz⟩ : ∃ z, z = b.getD m 0 := ⟨_, rfl⟩
      rw [← hz] at g2
      have hset := h4.out.set n (.int .u8 z)
      rw [u8s_set] at hset
      have hcur : ∃ u, wr.cell? ⟨w.heap.size + 1 + 1 + 1, n, none⟩ = some u := ⟨_, by rw [h4.out.cell n]; exact u8s_get _ n (by omega)⟩
      obtain ⟨u, hcur⟩ := hcur
      have hf := h4.out.free n
      have H4 := Lib.hid (show Blk _ _ _ (u8s (cjTo a b (k + 1))) from by rw [hstep, show ((m : Int)).toNat = m from rfl, ← hz]; exact hset)
      have H1 := Lib.hid (h1.out.other (w.heap.size + 1 + 1 + 1) n (.int .u8 z) (by omega))
      have H2 := Lib.hid (h2.out.other (w.heap.size + 1 + 1 + 1) n (.int .u8 z) (by omega))
      have H3 := Lib.hid (h3.out.other (w.heap.size + 1 + 1 + 1) n (.int .u8 z) (by omega))
      clear hset hx hy hz hstep
      go_wp2
      go_roundw
      case rel => exact ⟨k + 1, by omega, by go_num, H1, H2, H3, H4, hb.setCell (by show w.heap.size ≤ w.heap.size + 1 + 1 + 1; omega) _⟩
      case measure => simp [intOf]; omega
    · obtain rfl : k = 7 := by omega
      have hi1 := infoElem' hl7
      have hone := u8s_one (cjTo a b 7)
      have hE7 := h4.out
      have HRow := Lib.hid (h3.out.setRow (u8s (cjTo a b 7)))
      have HB2 := Lib.hid (below_row hb (w.heap.size + 1 + 1) (u8s (cjTo a b 7)) (by omega))
      go_wp2_with (first | (refine wpList_load_row rfl 78 _ rfl (w.heap.size + 1 + 1 + 1) rfl 78 (u8s (cjTo a b 7)) (0, 0) _ hE7 Try.underlying78 rfl hi1 ?_) | (refine wpList_store_row rfl 78 _ _ rfl (w.heap.size + 1 + 1) (u8s (cjTo a b 7)) rfl rfl 78 #[.int .u8 0, .int .u8 0, .int .u8 0, .int .u8 0, .int .u8 0, .int .u8 0, .int .u8 0] h3.out hi1 (by rw [size_u8s, hl7]; rfl) hone ?_))
      exact bodyPost_ret (res_elem rfl _ _ (w.heap.size + 1 + 1) (u8s (cjTo a b 7)) rfl HRow.out hi1) rfl ⟨rfl, HB2.out⟩
end Go.Proofs.Ytdcilefiacohnaa
