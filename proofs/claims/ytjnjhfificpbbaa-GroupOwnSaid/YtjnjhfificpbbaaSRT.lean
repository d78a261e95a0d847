/- sorted's comparison: slices.Compare of two elements' images. | Plain mathematics: the lexicographic comparison is a total order. | slices.SortFunc at elements. | slices.SortFunc on a row of elements of the call's own. -/
import Derived.Test.YtjnjhfificpbbaaELM
import Derived.Deep.QuietTactic
import Derived.BigQuiet
import Derived.Shelf.SlSortCmp.WholeK
import Derived.Shelf.Lay
import Derived.Ground.SlsfProg
import Derived.Test.YtjnjhfificpbbaaCLX
import Derived.Sort.Grow
import Derived.Laws.OwnMore
namespace Go.Proofs.Ytjnjhfificpbbaa
open Go Go.RowKit

/-- the lexicographic comparison -/
def cmpLex : List Int → List Int → Int
  | [], [] => 0
  | [], _ :: _ => -1
  | _ :: _, [] => 1
  | x :: a, y :: b => if x < y then -1 else if y < x then 1 else cmpLex a b
theorem cmpLex_drop (a b : List Int) (k : Nat) (h : ∀ t, t < k → a.getD t 0 = b.getD t 0) (ha : k ≤ a.length) (hb : k ≤ b.length) : cmpLex a b = cmpLex (a.drop k) (b.drop k) := by
  induction k generalizing a b with
  | zero => rfl
  | succ k ih =>
    match a, b with
    | [], _ => simp at ha
    | _ :: _, [] => simp at hb
    | x :: a, y :: b =>
      have h0 : x = y := h 0 (by omega)
      rw [List.drop_succ_cons, List.drop_succ_cons, ← ih a b (fun t ht => h (t + 1) (by omega)) (by simpa using ha) (by simpa using hb), cmpLex, if_neg (by omega), if_neg (by omega)]
theorem cmpLex_at (a b : List Int) (k : Nat) (h : ∀ t, t < k → a.getD t 0 = b.getD t 0) (ha : k < a.length) (hb : k < b.length) (hne : a.getD k 0 ≠ b.getD k 0) : cmpLex a b = if a.getD k 0 < b.getD k 0 then -1 else if b.getD k 0 < a.getD k 0 then 1 else 0 := by
  rw [cmpLex_drop a b k h (by omega) (by omega), List.drop_eq_getElem_cons ha, List.drop_eq_getElem_cons hb, cmpLex]
  have e1 : a.getD k 0 = a[k] := by simp [ha]
  have e2 : b.getD k 0 = b[k] := by simp [hb]
  rw [e1, e2] at hne ⊢
  by_cases h1 : a[k] < b[k]
  · rw [if_pos h1, if_pos h1]
  · rw [if_neg h1, if_neg h1, if_pos (by omega), if_pos (by omega)]
theorem cmpLex_eq (a b : List Int) (h : ∀ t, t < a.length → a.getD t 0 = b.getD t 0) (hl : a.length = b.length) : cmpLex a b = 0 := by
  rw [cmpLex_drop a b a.length h (Nat.le_refl _) (by omega), List.drop_length, hl, List.drop_length]; rfl

theorem isNaN8 (x : Int) (w : World) : Calls Try.prog 104 #[.int .u8 x] w fun e w' => e = .returned (.bool false) ∧ w' = w := by
  go_enter Try.func104, Try.ntmps104
  go_wp2
  go_ret
  exact ⟨by simp, rfl⟩
set_option maxHeartbeats 1000000 in
theorem cmpU8 (x y : Int) (w : World) : Calls Try.prog 98 #[.int .u8 x, .int .u8 y] w fun e w' => e = .returned (.int .i64 (if x < y then -1 else if y < x then 1 else 0)) ∧ w' = w := by
  by_cases h1 : x < y
  · rw [if_pos h1]
    go_enter Try.func98, Try.ntmps98
    go_wp2_with (go_at_call 104; refine (isNaN8 _ _).mono ?_; rintro r w1 ⟨rfl, rfl⟩)
    go_ret
    exact ⟨rfl, rfl⟩
  · rw [if_neg h1]
    by_cases h2 : y < x
    · rw [if_pos h2]
      go_enter Try.func98, Try.ntmps98
      go_wp2_with (go_at_call 104; refine (isNaN8 _ _).mono ?_; rintro r w1 ⟨rfl, rfl⟩)
      go_ret
      exact ⟨rfl, rfl⟩
    · rw [if_neg h2]
      go_enter Try.func98, Try.ntmps98
      go_wp2_with (go_at_call 104; refine (isNaN8 _ _).mono ?_; rintro r w1 ⟨rfl, rfl⟩)
      go_ret
      exact ⟨rfl, rfl⟩

set_option maxHeartbeats 1000000 in
theorem cmpRow (p q : Nat) (a b : List Int) (w : World) (ha : E7 a) (hb : E7 b) (h1 : Blk w p 78 (u8s a)) (h2 : Blk w q 78 (u8s b)) :
    Calls Try.prog 87 #[.slice (some ⟨p, 0, none⟩) 7 7, .slice (some ⟨q, 0, none⟩) 7 7] w fun e w' => e = .returned (.int .i64 (cmpLex a b)) ∧ w' = w := by
  have H1 := Lib.hid h1
  have H2 := Lib.hid h2
  have HA := Lib.hid ha
  have HB := Lib.hid hb
  clear h1 h2 ha hb
  go_enter Try.func87, Try.ntmps87
  go_wp2
  go_loopw [11] (fun i wr => ∃ k : Nat, i = .int .i64 k ∧ k ≤ 7 ∧ wr = w ∧ Hid (∀ t, t < k → a.getD t 0 = b.getD t 0)) (fun i _ => 7 - (intOf i).toNat)
  case atStart => exact ⟨0, rfl, by omega, rfl, Lib.hid (fun t ht => by omega)⟩
  case round =>
    obtain ⟨k, rfl, hk, rfl, HE⟩ := hrel
    by_cases hlt : k < 7
    · have g1 := H1.out.cell k
      rw [u8s_get a k (by rw [HA.out.1]; exact hlt)] at g1
      have g2 := H2.out.cell k
      rw [u8s_get b k (by rw [HB.out.1]; exact hlt)] at g2
      obtain ⟨x, hx⟩ : ∃ x, x = a.getD k 0 := ⟨_, rfl⟩
      obtain ⟨y, hy⟩ : ∃ y, y = b.getD k 0 := ⟨_, rfl⟩
      rw [← hx] at g1
      rw [← hy] at g2
      have HX := Lib.hid hx
      have HY := Lib.hid hy
      clear hx hy
      by_cases hxy : x = y
      · have hc0 : (if x < y then (-1 : Int) else if y < x then 1 else 0) = 0 := by rw [if_neg (by omega), if_neg (by omega)]
        have HN := Lib.hid (show ∀ t, t < k + 1 → a.getD t 0 = b.getD t 0 from fun t ht => by
          by_cases e : t = k
          · rw [e, ← HX.out, ← HY.out]; exact hxy
          · exact HE.out t (by omega))
        clear hxy
        go_wp2_with (go_at_call 98; refine (cmpU8 x y _).mono ?_; rintro r w1 ⟨rfl, rfl⟩; rw [hc0])
        go_roundw
        case rel => exact ⟨k + 1, by go_num, by omega, by first | rfl | trivial, HN⟩
        case measure => simp [intOf]; omega
      · have hv := cmpLex_at a b k HE.out (by rw [HA.out.1]; exact hlt) (by rw [HB.out.1]; exact hlt) (by rw [← HX.out, ← HY.out]; exact hxy)
        rw [← HX.out, ← HY.out] at hv
        obtain ⟨z, hz⟩ : ∃ z, z = (if x < y then (-1 : Int) else if y < x then 1 else 0) := ⟨_, rfl⟩
        rw [← hz] at hv
        have hz0 : ¬ z = 0 := by
          rw [hz]
          by_cases h1 : x < y
          · rw [if_pos h1]; omega
          · rw [if_neg h1, if_pos (by omega)]; omega
        have HV := Lib.hid hv
        have HZ := Lib.hid hz
        clear hv hz hxy
        go_wp2_with (go_at_call 98; refine (cmpU8 x y _).mono ?_; rintro r w1 ⟨rfl, rfl⟩; rw [← HZ.out])
        go_ret
        exact ⟨by rw [HV.out]; rfl, rfl⟩
    · have hk7 : k = 7 := by omega
      subst hk7
      have HV := Lib.hid (cmpLex_eq a b (by rw [HA.out.1]; exact HE.out) (HA.out.1.trans HB.out.1.symm))
      clear HE
      go_wp2
      go_ret
      exact ⟨by rw [HV.out]; rfl, rfl⟩

set_option maxHeartbeats 1000000 in
theorem sortedCmp (a b : List Int) (w : World) (ha : E7 a) (hb : E7 b) : Calls Try.prog 86 #[.agg (u8s a), .agg (u8s b)] w fun e w' => e = .returned (.int .i64 (cmpLex a b)) ∧ ∃ q, w' = ((w.alloc (.cells (u8s a) 78)).alloc (.cells (u8s b) 78)).drewN q := by
  have b1 := Blk.new w 78 (u8s a)
  have b2 := Blk.new (w.alloc (.cells (u8s a) 78)) 78 (u8s b)
  rw [World.size_alloc] at b2
  have C1 := Lib.hid (b1.alloc (.cells (u8s b) 78))
  have C2 := Lib.hid b2
  clear b1 b2
  go_enter Try.func86, Try.ntmps86
  go_wp2
  generalize hW : (w.alloc (.cells (u8s a) 78)).alloc (.cells (u8s b) 78) = W at *
  have hcall : ∀ m, Calls Try.prog 87 #[.slice (some ⟨w.heap.size, 0, none⟩) 7 7, .slice (some ⟨w.heap.size + 1, 0, none⟩) 7 7] (W.drewN m) fun e w'' => e = .returned (.int .i64 (cmpLex a b)) ∧ w'' = W.drewN m := fun m => cmpRow _ _ a b _ ha hb (C1.out.drew m) (C2.out.drew m)
  have HCall := Lib.hid hcall
  clear hcall
  go_quiet ((go_at_call 87; exact Calls.quiet_of_same (HCall.out _)))
  go_wp2
  go_ret
  exact ⟨rfl, nq, by rw [hW]⟩
end Go.Proofs.Ytjnjhfificpbbaa
namespace Go.Proofs.Ytjnjhfificpbbaa
open Go Go.RowKit

theorem cmpLex_self : ∀ a : List Int, cmpLex a a = 0
  | [] => rfl
  | x :: a => by rw [cmpLex, if_neg (by omega), if_neg (by omega)]; exact cmpLex_self a
theorem cmpLex_neg : ∀ a b : List Int, cmpLex b a = - cmpLex a b
  | [], [] => rfl
  | [], _ :: _ => rfl
  | _ :: _, [] => rfl
  | x :: a, y :: b => by
    rw [cmpLex, cmpLex]
    by_cases h1 : x < y
    · rw [if_neg (by omega), if_pos h1, if_pos h1]; rfl
    · by_cases h2 : y < x
      · rw [if_pos h2, if_neg h1, if_pos h2]
      · rw [if_neg h2, if_neg h1, if_neg h1, if_neg h2]; exact cmpLex_neg a b
theorem cmpLex_zero : ∀ a b : List Int, cmpLex a b = 0 → a = b
  | [], [], _ => rfl
  | [], _ :: _, h => by simp [cmpLex] at h
  | _ :: _, [], h => by simp [cmpLex] at h
  | x :: a, y :: b, h => by
    rw [cmpLex] at h
    by_cases h1 : x < y
    · rw [if_pos h1] at h; omega
    · by_cases h2 : y < x
      · rw [if_neg h1, if_pos h2] at h; omega
      · rw [if_neg h1, if_neg h2] at h
        rw [cmpLex_zero a b h, show x = y by omega]
theorem cmpLex_trans : ∀ a b c : List Int, cmpLex a b < 0 → cmpLex b c < 0 → cmpLex a c < 0
  | [], [], _, h, _ => by simp [cmpLex] at h
  | [], _ :: _, [], _, h => by simp [cmpLex] at h
  | [], _ :: _, _ :: _, _, _ => by simp [cmpLex]
  | _ :: _, [], _, h, _ => by simp [cmpLex] at h
  | _ :: _, _ :: _, [], _, h => by simp [cmpLex] at h
  | x :: a, y :: b, z :: c, h, k => by
    rw [cmpLex] at h k ⊢
    by_cases h1 : x < y
    · by_cases k1 : y < z
      · rw [if_pos (by omega)]; omega
      · rw [if_neg k1] at k
        by_cases k2 : z < y
        · rw [if_pos k2] at k; omega
        · rw [if_pos (by omega)]; omega
    · rw [if_neg h1] at h
      by_cases h2 : y < x
      · rw [if_pos h2] at h; omega
      · rw [if_neg h2] at h
        by_cases k1 : y < z
        · rw [if_pos (by omega)]; omega
        · rw [if_neg k1] at k
          by_cases k2 : z < y
          · rw [if_pos k2] at k; omega
          · rw [if_neg k2] at k
            rw [if_neg (by omega), if_neg (by omega)]
            exact cmpLex_trans a b c h k
/-- not less twice is not less -/
theorem cmpLex_ntrans (a b c : List Int) (h : ¬ cmpLex a b < 0) (k : ¬ cmpLex b c < 0) : ¬ cmpLex a c < 0 := by
  intro hac
  by_cases e : cmpLex a b = 0
  · rw [cmpLex_zero a b e] at hac; exact k hac
  · have h1 : cmpLex b a < 0 := by rw [cmpLex_neg a b]; omega
    exact k (cmpLex_trans b a c h1 hac)
/-- neither less: the same -/
theorem cmpLex_total (a b : List Int) (h : ¬ cmpLex a b < 0) (k : ¬ cmpLex b a < 0) : a = b := by
  have := cmpLex_neg a b
  exact cmpLex_zero a b (by omega)
end Go.Proofs.Ytjnjhfificpbbaa
namespace Go.Proofs
open Go.Shelf Go.RowKit Go.Lib Go.Sort
shelf_lay_g SlLaysF0.n6 Slsf 6 at Try 96 as Try.sortEl
end Go.Proofs
namespace Go.Proofs.Ytjnjhfificpbbaa
open Go Go.Shelf Go.RowKit Go.Lib Go.Sort Go.Proofs

instance : Inhabited GE := ⟨GE.one⟩
/-- an element's seven cells -/
def encE (x : GE) : List Value := x.1.map (Value.int .u8)
def cfE (x y : GE) : Int := cmpLex x.1 y.1
theorem grow_two (W : World) (o1 o2 : Obj) (q : Nat) : ((W.alloc o1).alloc o2).drewN q = grow (W.drewN q) #[o1, o2] := by
  have h : (W.heap.push o1).push o2 = W.heap ++ #[o1, o2] := rfl
  have h2 : grow (W.drewN q) #[o1, o2] = { W.drewN q with heap := W.heap ++ #[o1, o2] } := rfl
  rw [h2, ← h]
  rfl
theorem ltE (x y : GE) : ltOf cfE x y = decide (cmpLex x.1 y.1 < 0) := rfl
theorem swoE : SWO (ltOf cfE) where
  irrefl x := by rw [ltE, cmpLex_self]; decide
  trans x y z h1 h2 := by rw [ltE] at *; simp at *; exact cmpLex_trans _ _ _ h1 h2
  ntrans x y z h1 h2 := by rw [ltE] at *; simp at *; have := cmpLex_ntrans x.1 y.1 z.1 (by omega) (by omega); omega
theorem totE (x y : GE) (h1 : ltOf cfE x y = false) (h2 : ltOf cfE y x = false) : x = y := by
  rw [ltE] at h1 h2
  exact Subtype.ext (cmpLex_total _ _ (by simpa using h1) (by simpa using h2))
theorem cmpLaysE (blk off size : Nat) (w : World) : CmpLays Try.prog 86 #[] encE 7 cfE blk off size w := fun _ _ _ _ x y =>
  (sortedCmp x.1 y.1 _ x.2.e7 y.2.e7).mono fun _ _ ⟨he, q, hw⟩ => ⟨he, q, _, hw.trans (grow_two _ _ _ _)⟩

theorem isAggE : ∀ w, (isAgg 78).run Try.prog w = .ok true w := fun w => by kernel_rfl
theorem sizeOfE : ∀ w, (Go.sizeOf 78).run Try.prog w = .ok 7 w := fun w => by kernel_rfl
/-- slices.SortFunc at elements: a permutation of what the row held, sorted -/
theorem sortFunc_el (blk off cap : Nat) (d : Array GE) (w : World) (hH : HoldsK encE 7 w blk off d) (hblk : blk < w.heap.size) (hsz : d.size < 4611686018427387904) :
    Calls Try.prog 96 #[.slice (some ⟨blk, off, none⟩) d.size cap, .func (.func 86) #[] #[]] w fun e w' => e = .returned (.tuple #[]) ∧ ∃ d' n os, PermIn 0 d.size d d' ∧ SortedIn (ltOf cfE) 0 d.size d' ∧ w' = sortWorldK encE 7 w blk off n d' os := by
  have eg : ∀ args w, (callFunc 86 args).run Try.prog w = .ok (.enter 86 args) w := enters_of Try.func86 (by kernel_rfl) rfl
  exact AnyQ.slices_SortFunc Try.sortEl 7 isAggE sizeOfE encE (fun x => by simp [encE, x.2.2]) (fun x v hv => by simp [encE] at hv; obtain ⟨y, _, rfl⟩ := hv; rfl) cfE swoE 86 #[] blk off cap d w eg (cmpLaysE blk off d.size w) hH hblk hsz
end Go.Proofs.Ytjnjhfificpbbaa
namespace Go.Proofs.Ytjnjhfificpbbaa
open Go Go.Shelf Go.RowKit Go.Lib Go.Sort Go.Proofs

/-- the lists of some elements -/
def vals (d : List GE) : List (List Int) := d.map (·.1)
theorem vals_len (d : List GE) : (vals d).length = d.length := by simp [vals]
theorem vals_seven (d : List GE) : ∀ x ∈ vals d, x.length = 7 := fun x hx => by
  obtain ⟨y, _, rfl⟩ := List.mem_map.1 hx; exact y.2.2
theorem rows_len : ∀ L : List (List Int), (∀ x ∈ L, x.length = 7) → (rowsV L).length = L.length * 7
  | [], _ => rfl
  | x :: L, h => by
    have h1 := rows_len L (fun y hy => h y (by simp [hy]))
    have h2 := h x (by simp)
    have e : rowsV (x :: L) = x.map (Value.int .u8) ++ rowsV L := rfl
    rw [e, List.length_append, List.length_map, h1, h2, List.length_cons]; omega
theorem flatK_rows (d : List GE) : (flatK encE 7 d.toArray).toList = rowsV (vals d) := by
  apply List.ext_getElem?
  intro j
  by_cases hj : j < d.length * 7
  · have h1 := get_flatK encE 7 d.toArray j (by simpa using hj)
    have hs : j < (flatK encE 7 d.toArray).size := by simpa using hj
    rw [getElem!_pos _ j hs] at h1
    have hk : j / 7 < d.length := by omega
    have hr : j % 7 < 7 := by omega
    have h2 := rowsV_get (vals d) (j / 7) (j % 7) (vals_seven d) (by rw [vals_len]; exact hk) hr
    rw [show j / 7 * 7 + j % 7 = j by omega] at h2
    rw [h2, Array.getElem?_toList, Array.getElem?_eq_getElem hs, h1]
    have h3 : (vals d).getD (j / 7) [] = (d[j / 7]'hk).1 := by simp [vals, hk]
    have h4 : (d.toArray[j / 7]!) = d[j / 7]'hk := by simp [hk]
    rw [h3, h4]
    have h5 : j % 7 < (encE (d[j / 7]'hk)).length := by rw [encE, List.length_map, (d[j / 7]'hk).2.2]; exact hr
    rw [getElem!_pos (encE (d[j / 7]'hk)) (j % 7) h5]
    exact (List.getElem?_eq_getElem h5).symm
  · rw [List.getElem?_eq_none (by simp; omega), List.getElem?_eq_none (by rw [rows_len _ (vals_seven d), vals_len]; omega)]
theorem heap_sortK {w : World} {g m : Nat} {os : Array Obj} {cur : Array Value} {e : TypeId} {fr : Nat × Nat} (d : Array GE) (hb : w.heap[g]? = some (.cells cur e fr)) :
    (sortWorldK encE 7 w g 0 m d os).heap[g]? = some (.cells (putCells id 0 (flatK encE 7 d) cur) e fr) := by
  have hg : g < w.heap.size := (Array.getElem?_eq_some_iff.1 hb).1
  unfold sortWorldK putRowK
  rw [heap_grow_old _ _ (by simpa [putRow, mapBlock, Sort.ahead] using hg)]
  simp [putRow, mapBlock, Sort.ahead, Array.getElem?_modify, hb, onCells]
theorem grownBy_sortK {w : World} {g m : Nat} {os : Array Obj} (d : Array GE) : w.grownBy (sortWorldK encE 7 w g 0 m d os) (some g) := by
  refine ⟨rfl, rfl, rfl, by simp [sortWorldK, putRowK, putRow, mapBlock, Sort.ahead], fun k hk hne => ?_⟩
  unfold sortWorldK putRowK
  rw [heap_grow_old _ _ (by simpa [putRow, mapBlock, Sort.ahead] using hk)]
  have : g ≠ k := fun e => hne (by rw [e])
  simp [putRow, mapBlock, Sort.ahead, Array.getElem?_modify, this]
theorem take_put (cur F : Array Value) (h : F.size ≤ cur.size) : (putCells id 0 F cur).toList.take F.size = F.toList := by
  apply List.ext_getElem?
  intro j
  by_cases hj : j < F.size
  · rw [List.getElem?_take_of_lt hj, Array.getElem?_toList]
    simp [putCells, hj, show j < cur.size by omega]
  · rw [List.getElem?_take_eq_none (by omega), List.getElem?_eq_none (by simp; omega)]
theorem Oel.sorted {B g cap n m : Nat} {w : World} {os : Array Obj} {d d' : List GE} (h : Oel B w (.slice (some ⟨g, 0, none⟩) n cap) (vals d)) (hl : d'.length = d.length) :
    Oel B (sortWorldK encE 7 w g 0 m d'.toArray os) (.slice (some ⟨g, 0, none⟩) n cap) (vals d') := by
  unfold Oel at h ⊢
  rw [vals_len] at h ⊢
  rcases h.2 with ⟨h0, _⟩ | ⟨g', cap', cur, hv, hb, hg, h1, h2, h3, h4⟩
  · cases h0
  · cases hv
    rw [hl]
    refine ⟨by rw [rows_len _ (vals_seven d'), vals_len, hl], .inr ⟨g, cap, _, rfl, hb, heap_sortK _ hg, h1, h2, by simp [putCells, h3], ?_⟩⟩
    have hs : (flatK encE 7 d'.toArray).size = d.length * 7 := by rw [size_flatK]; simp [hl]
    have := take_put cur (flatK encE 7 d'.toArray) (by rw [hs, h3]; exact Nat.mul_le_mul_right 7 h1)
    rw [hs, flatK_rows] at this
    exact this
theorem Oel.holds {B g cap n : Nat} {w : World} {d : List GE} (h : Oel B w (.slice (some ⟨g, 0, none⟩) n cap) (vals d)) : HoldsK encE 7 w g 0 d.toArray := by
  have hn : n = d.length := by
    rcases h.2 with ⟨e, _⟩ | ⟨g, cap, cur, e, _⟩
    · cases e
    · cases e; exact vals_len d
  subst hn
  unfold Oel at h
  rw [vals_len] at h
  intro j hj
  rw [size_flatK] at hj
  have hj' : j < d.length * 7 := by simpa using hj
  rw [Nat.zero_add]
  refine ⟨?_, World.ownsRow.frozenAt h j⟩
  rw [World.ownsRow.cellAt h j hj', ← flatK_rows, Array.getElem?_toList, Array.getElem?_eq_getElem (by simpa using hj)]
  rw [getElem!_pos _ j (by simpa using hj)]
  rfl

/-- no later one comes before an earlier one -/
def Asc (L : List (List Int)) : Prop := L.Pairwise fun a b => ¬ cmpLex b a < 0
theorem lift_els {L : List (List Int)} (h : ∀ x ∈ L, El x) : ∃ d : List GE, vals d = L := by
  induction L with
  | nil => exact ⟨[], rfl⟩
  | cons x L ih =>
    obtain ⟨d, hd⟩ := ih (fun y hy => h y (by simp [hy]))
    exact ⟨⟨x, h x (by simp)⟩ :: d, congrArg (x :: ·) hd⟩
theorem sort_el {B : Nat} {v : Value} {L : List (List Int)} {w : World} (h : Oel B w v L) (hE : ∀ x ∈ L, El x) (h0 : 0 < L.length) (hn : L.length ≤ 900000) :
    Calls Try.prog 96 #[v, .func (.func 86) #[] #[]] w fun e w' => e = .returned (.tuple #[]) ∧ ∃ L', L'.Perm L ∧ Asc L' ∧ Oel B w' v L' ∧ w.grownBy w' v.ownBlock := by
  obtain ⟨g, cap, rfl⟩ := h.form h0
  obtain ⟨d, rfl⟩ := lift_els hE
  have hH := h.holds
  have hg : g < w.heap.size := (World.ownsRow.lt h g rfl).2
  rw [vals_len] at hn
  have := sortFunc_el g 0 cap d.toArray w hH hg (by simp; omega)
  rw [show (d.toArray).size = (vals d).length by simp [vals]] at this
  refine this.mono ?_
  rintro e w' ⟨rfl, d', m, os, hp, hs, rfl⟩
  obtain ⟨hsz, _, hpm⟩ := hp
  rw [vals_len] at hpm hs
  have hsz' : d'.size = d.length := by simpa using hsz
  have hpm' : d'.toList.Perm d := by
    have e1 : d'.extract 0 d.length = d' := by rw [← hsz']; simp
    have e2 : d.toArray.extract 0 d.length = d.toArray := by simp
    rw [e1, e2] at hpm
    simpa using hpm
  refine ⟨rfl, vals d'.toList, hpm'.map _, ?_, ?_, grownBy_sortK _⟩
  · unfold Asc
    rw [List.pairwise_iff_getElem]
    intro i j hi hj hij
    rw [vals_len] at hi hj
    have hi' : i < d'.size := by simpa using hi
    have hj' : j < d'.size := by simpa using hj
    have := hs i j (Nat.zero_le _) hij (by omega)
    rw [getElem!_pos _ i hi', getElem!_pos _ j hj', ltE] at this
    have := of_decide_eq_false this
    simpa [vals] using this
  · have := h.sorted (m := m) (os := os) (d' := d'.toList) (by simpa using hsz')
    simpa using this
end Go.Proofs.Ytjnjhfificpbbaa
