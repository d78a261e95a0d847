/- The reference's Generators. | Rows of marks. | Queues: a slice of the call's own that may begin anywhere in its row; append at its end; what is left behind its first element. | Plain mathematics: sets of permutations by their ranks; what a search from the identity by right products reaches. | The reference's SetOf. | The reference's List. | The reference's Close: a search with a queue. -/
import Derived.Test.YtjnjhfificpbbaaPGR
import Derived.Test.YtjnjhfificpbbaaRef
import Derived.Test.YtjnjhfificpbbaaProg
import Derived.Test.YtjnjhfificpbbaaBase
import Derived.Laws.AppendOwn
import Derived.Test.YtjnjhfificpbbaaRange
import Derived.Test.YtjnjhfificpbbaaALV
import Derived.Test.YtjnjhfificpbbaaRRank
import Derived.Deep.LoopGhost
namespace Go.Proofs.Ytjnjhfificpbbaa
open Go Go.RowKit

/-- list number k is a permutation of as many points as the first, or the pair is refused -/
theorem errP_gen {ps : List (List Int)} {k : Nat} : errP (ps.getD 0 []) (ps.getD k []) = 0 ↔ validL (ps.getD 0 []) = true ∧ validL (ps.getD k []) = true ∧ (ps.getD k []).length = (ps.getD 0 []).length :=
  ⟨fun h => let ⟨a, b, c⟩ := errP_zero h; ⟨a, b, c.symm⟩, fun ⟨a, b, c⟩ => errP_ok a b c.symm⟩

set_option maxRecDepth 100000 in
set_option maxHeartbeats 2000000 in
theorem refGens_any (v : Value) (ps : List (List Int)) (w : World) (h : Sps w v ps) (hx : ∀ i, i < ps.length → (ps.getD i []).length ≤ 1000000) :
    Calls Try.prog 15 #[v] w fun e w' => ∃ r, e = .returned (.bool r) ∧ Says r (GenP ps) ∧ Below w.heap.size w w' := by
  obtain ⟨a, cap, rfl, h⟩ := h
  obtain ⟨n, hn⟩ : ∃ n, n = ps.length := ⟨_, rfl⟩
  have HN := Lib.hid hn
  rw [← hn]
  by_cases h1 : n < 1
  · have HS := Lib.hid (show Says false (GenP ps) from Says.no fun hp => by have := hp.1; omega)
    have d1 : decide ((n : Int) < 1) = true := decide_eq_true (by omega)
    clear h hn
    go_enter Try.func15, Try.ntmps15
    go_wp2_with fail
    go_ret
    exact ⟨false, rfl, HS.out, Below.refl _ _⟩
  by_cases h2 : 5040 < n
  · have HS := Lib.hid (show Says false (GenP ps) from Says.no fun hp => by have := hp.2.1; omega)
    have d1 : decide ((n : Int) < 1) = false := decide_eq_false (by omega)
    have d2 : decide (5040 < (n : Int)) = true := decide_eq_true (by omega)
    clear h hn
    go_enter Try.func15, Try.ntmps15
    go_wp2_with fail
    go_ret
    exact ⟨false, rfl, HS.out, Below.refl _ _⟩
  rcases h with h | ⟨b, off, rfl, h⟩
  · rw [h] at hn; simp at hn; omega
  have HC := Lib.hid h
  have HX := Lib.hid hx
  obtain ⟨x0, g0, s0⟩ := h 0 (by omega)
  have HS0 := Lib.hid s0
  obtain ⟨xa, xc, rfl, _⟩ := s0
  rw [Nat.add_zero] at g0
  have hb0 : b < w.heap.size := World.block_lt_of_cell? w _ g0
  have G0 := Lib.hid g0
  have d1 : decide ((n : Int) < 1) = false := decide_eq_false (by omega)
  have d2 : decide (5040 < (n : Int)) = false := decide_eq_false (by omega)
  have HLO := Lib.hid (show 1 ≤ n ∧ n ≤ 5040 by omega)
  have hn5 : n ≤ 5040 := by omega
  clear h hx g0 hn
  go_enter Try.func15, Try.ntmps15
  go_wp2_with fail
  clear d1 d2 h1 h2
  go_loopw [3] (fun i wr => ∃ k : Nat, i = .int .i64 k ∧ k ≤ n ∧ Hid (∀ i, i < k → errP (ps.getD 0 []) (ps.getD i []) = 0) ∧ Hid (Below w.heap.size w wr)) (fun i _ => n - (intOf i).toNat)
  case atStart => exact ⟨0, rfl, Nat.zero_le _, Lib.hid (fun i hi => by omega), Lib.hid (Below.refl _ _)⟩
  case round =>
    obtain ⟨k, rfl, hk, HT, HB⟩ := hrel
    by_cases hlt : k < n
    · obtain ⟨x, g1, s1⟩ := HC.out k (by rw [← HN.out]; exact hlt)
      have g2 : wr.cell? ⟨b, off + k, none⟩ = some x := (HB.out.cell (p := ⟨b, off + k, none⟩) hb0).trans g1
      have c0 := (HB.out.cell (p := ⟨b, off, none⟩) hb0).trans G0.out
      have s2 := s1.below HB.out
      have s3 := HS0.out.below HB.out
      have hp0 := HX.out 0 (by rw [← HN.out]; omega)
      have hpk := HX.out k (by rw [← HN.out]; exact hlt)
      obtain ⟨z, hz⟩ : ∃ z, z = errP (ps.getD 0 []) (ps.getD k []) := ⟨_, rfl⟩
      have HCall := Lib.hid (show ∀ j, Calls Try.prog 49 #[_, x] (wr.drewN j) fun e w'' => e = .returned (.int .i64 z) ∧ ∃ i, w'' = (wr.drewN j).drewN i from fun j => by
        rw [hz]
        exact refalike_any _ _ _ _ _ (s3.below (below_drewN' (Below.refl _ _) j)) (s2.below (below_drewN' (Below.refl _ _) j)) hp0 hpk)
      have HZ := Lib.hid hz
      have HLt := Lib.hid hlt
      obtain ⟨ya, yc, rfl, _⟩ := s2
      clear g1 s1 s3 hp0 hpk hz
      by_cases h0 : z = 0
      · have D : (z != 0) = false := by rw [h0]; rfl
        have HT2 := Lib.hid (show ∀ i, i < k + 1 → errP (ps.getD 0 []) (ps.getD i []) = 0 from fun i hi => by
          by_cases e : i = k
          · subst e; rw [← HZ.out]; exact h0
          · exact HT.out i (by omega))
        clear h0
        go_wp2_with fail
        go_quiet ((go_at_call 49; exact Calls.quiet_of (HCall.out _)))
        go_wp2_with fail
        go_roundw
        case rel => exact ⟨k + 1, by go_num, by omega, HT2, Lib.hid (below_drewN' HB.out nq)⟩
        case measure => simp [intOf]; omega
      · have D : (z != 0) = true := by simpa [bne] using h0
        have HSy := Lib.hid (show Says false (GenP ps) from Says.no fun hq => by
          have q0 := hq.2.2 0 (by rw [← HN.out]; omega)
          have qk := hq.2.2 k (by rw [← HN.out]; exact HLt.out)
          exact h0 (by rw [HZ.out]; exact errP_gen.2 ⟨q0.1, qk⟩))
        clear h0
        go_wp2_with fail
        go_quiet ((go_at_call 49; exact Calls.quiet_of (HCall.out _)))
        go_wp2_with fail
        go_ret
        exact ⟨false, rfl, HSy.out, below_drewN' HB.out nq⟩
    · have HSy := Lib.hid (show Says true (GenP ps) from Says.yes ⟨by rw [← HN.out]; exact HLO.out.1, by rw [← HN.out]; exact HLO.out.2, fun i hi => (errP_gen.1 (HT.out i (by rw [← HN.out] at hi; omega))).2⟩)
      go_wp2_with fail
      go_ret
      exact ⟨true, rfl, HSy.out, HB.out⟩
end Go.Proofs.Ytjnjhfificpbbaa
namespace Go.Proofs.Ytjnjhfificpbbaa
open Go.RowKit

theorem infoMark : (Try.prog.info? 4).map (fun i => (i.zero, i.size, i.bytes)) = some (some (.bool false), 1, 1) := by kernel_rfl

/-- n marks: which of the points below n are in s -/
def mkm (n : Nat) (s : List Int) : Array Value := Array.ofFn (n := n) fun i => .bool (decide (((i : Nat) : Int) ∈ s))
theorem mkm_get (n : Nat) (s : List Int) (i : Nat) (h : i < n) : (mkm n s)[i]? = some (.bool (decide ((i : Int) ∈ s))) := by simp [mkm, h]
theorem mkm_get_none (n : Nat) (s : List Int) (i : Nat) (h : n ≤ i) : (mkm n s)[i]? = none := by rw [Array.getElem?_eq_none_iff]; simp [mkm, h]
theorem mkm_set (n : Nat) (s : List Int) (i : Nat) : (mkm n s).setIfInBounds i (.bool true) = mkm n (s ++ [(i : Int)]) := by
  apply Array.ext_getElem?
  intro j
  rw [Array.getElem?_setIfInBounds]
  by_cases h7 : j < n
  · rw [mkm_get _ _ j h7, mkm_get _ _ j h7]
    by_cases e : i = j
    · subst e; simp [mkm, h7]
    · have : ¬ ((j : Int) = (i : Int)) := by omega
      simp [e, this]
  · rw [mkm_get_none _ _ j (by omega), mkm_get_none _ _ j (by omega)]
    by_cases e : i = j
    · subst e; simp [mkm, h7]
    · simp [e]
theorem mkm_nil (n : Nat) : (List.replicate n (Value.bool false)).toArray = mkm n [] := by
  apply Array.ext_getElem?
  intro j
  by_cases h : j < n
  · rw [mkm_get _ _ j h]; simp [h]
  · rw [mkm_get_none _ _ j (by omega)]; simp; omega
end Go.Proofs.Ytjnjhfificpbbaa
namespace Go.Proofs.Ytjnjhfificpbbaa
open Go Go.RowKit

/-- v is a slice of the call's own (elements of one cell each), which may begin anywhere in its row, and holds xs -/
def Que (B : Nat) (w : World) (e : TypeId) (v : Value) (xs : List Value) : Prop :=
  (v = .slice none 0 0 ∧ xs = []) ∨ ∃ g k cap cur, v = .slice (some ⟨g, k, none⟩) xs.length cap ∧ B ≤ g ∧ w.heap[g]? = some (.cells cur e (0, 0)) ∧ xs.length ≤ cap ∧ cap ≤ maxLen ∧ k + cap ≤ cur.size ∧ (cur.toList.drop k).take xs.length = xs

section
variable {B : Nat} {w w' : World} {e : TypeId} {v : Value} {xs : List Value} {x : Value} {g k n cap : Nat}

theorem Que.of_row (h : w.ownsRow B e 1 v xs.length xs) : Que B w e v xs := by
  rcases h.2 with ⟨rfl, h0⟩ | ⟨g, cap, cur, rfl, h1, h2, h3, h4, h5, h6⟩
  · exact .inl ⟨rfl, List.length_eq_zero_iff.1 h0⟩
  · exact .inr ⟨g, 0, cap, cur, rfl, h1, h2, h3, h4, by omega, by simpa using h6⟩
theorem Que.form (h : Que B w e v xs) (hn : 0 < xs.length) : ∃ g k cap, v = .slice (some ⟨g, k, none⟩) xs.length cap ∧ xs.length ≤ cap := by
  rcases h with ⟨_, rfl⟩ | ⟨g, k, cap, cur, h1, _, _, h2, _⟩
  · simp at hn
  · exact ⟨g, k, cap, h1, h2⟩
theorem Que.slice (h : Que B w e v xs) : ∃ a cap, v = .slice a xs.length cap := by
  rcases h with ⟨rfl, rfl⟩ | ⟨g, k, cap, cur, h1, _, _, h2, _⟩
  · exact ⟨none, 0, rfl⟩
  · exact ⟨_, cap, h1⟩
theorem Que.cell (h : Que B w e (.slice (some ⟨g, k, none⟩) n cap) xs) {i : Nat} (hi : i < xs.length) : w.cell? ⟨g, k + i, none⟩ = some (xs.getD i undef) := by
  rcases h with ⟨h, _⟩ | ⟨g', k', cap', cur, h0, _, h2, _, _, _, h6⟩
  · cases h
  · cases h0
    rw [cell_of_row w g (k + i) cur e (0, 0) h2]
    have : ((cur.toList.drop k).take xs.length)[i]? = xs[i]? := by rw [h6]
    rw [List.getElem?_take, if_pos hi, List.getElem?_drop] at this
    rw [← Array.getElem?_toList, this]
    simp [hi]
theorem Que.lt (h : Que B w e v xs) : ∀ b, v.ownBlock = some b → B ≤ b ∧ b < w.heap.size := by
  intro b hb
  rcases h with ⟨rfl, _⟩ | ⟨g, k, cap, cur, rfl, h1, h2, _⟩
  · cases hb
  · cases hb
    exact ⟨h1, (Array.getElem?_eq_some_iff.1 h2).1⟩
/-- the row's type -/
theorem Que.typ (h : Que B w e v xs) : ∀ b, v.ownBlock = some b → ∃ cur, w.heap[b]? = some (.cells cur e (0, 0)) := by
  intro b hb
  rcases h with ⟨rfl, _⟩ | ⟨g, k, cap, cur, rfl, h1, h2, _⟩
  · cases hb
  · cases hb
    exact ⟨cur, h2⟩
theorem Que.same (h : Que B w e v xs) (hs : ∀ b, v.ownBlock = some b → w'.heap[b]? = w.heap[b]?) : Que B w' e v xs := by
  rcases h with ⟨rfl, h⟩ | ⟨g, k, cap, cur, rfl, h1, h2, h3⟩
  · exact .inl ⟨rfl, h⟩
  · exact .inr ⟨g, k, cap, cur, rfl, h1, (hs g rfl).trans h2, h3⟩
theorem Que.below (h : Que B w e v xs) (hb : Below w.heap.size w w') : Que B w' e v xs := h.same fun b e => hb.block b (h.lt b e).2
theorem Que.mono {B' : Nat} (h : Que B w e v xs) (hB : B' ≤ B) : Que B' w e v xs := by
  rcases h with h | ⟨g, k, cap, cur, rfl, h1, h2, h3⟩
  · exact .inl h
  · exact .inr ⟨g, k, cap, cur, rfl, Nat.le_trans hB h1, h2, h3⟩
theorem Que.tail (h : Que B w e (.slice (some ⟨g, k, none⟩) (n + 1) cap) (x :: xs)) : Que B w e (.slice (if cap = 1 then some ⟨g, k, none⟩ else some ⟨g, k + 1, none⟩) n (cap - 1)) xs := by
  rcases h with ⟨h, _⟩ | ⟨g', k', cap', cur, h0, h1, h2, h3, h4, h5, h6⟩
  · cases h
  · cases h0
    simp only [List.length_cons] at h3
    by_cases hc : cap = 1
    · have h0 : xs = [] := List.length_eq_zero_iff.1 (by omega)
      subst h0
      exact .inr ⟨g, k, 0, cur, by rw [if_pos hc, hc], h1, h2, Nat.zero_le _, Nat.zero_le _, by omega, by simp⟩
    · refine .inr ⟨g, k + 1, cap - 1, cur, by rw [if_neg hc], h1, h2, by omega, by omega, by omega, ?_⟩
      have e1 : (cur.toList.drop k).drop 1 = cur.toList.drop (k + 1) := by rw [List.drop_drop]
      have e2 := congrArg (List.drop 1) h6
      rw [List.drop_take, e1] at e2
      simpa using e2
end

section
variable {P : Program}
/-- append(v, x), v a queue -/
theorem run_append_que (w : World) (base : Nat) (t ty e : TypeId) (i : TypeInfo) (z : Value) (ht : P.underlying t = some (.slice e)) (hi : P.info? e = some i) (hz : i.zero = some z)
    (hsize : i.size = 1) (hby : i.bytes ≤ 1000) (hzs : z.cells.size = 1)
    (v : Value) (xs : List Value) (hown : Que base w e v xs)
    (a : Addr) (c : Nat) (x : Value) (hx : w.cell? (a.add 0) = some x) (h1 : x.oneCell' = true)
    (h63 : xs.length + 1 ≤ 1000000) (hbase : base ≤ w.heap.size) :
    ∃ v' w', (Builtin.append_ #[t, t] ty #[v, .slice (some a) 1 c]).run P w = .ok v' w' ∧ Que base w' e v' (xs ++ [x]) ∧ w.grownBy w' v.ownBlock ∧ (v'.ownBlock = v.ownBlock ∨ v'.ownBlock = some w.heap.size) := by
  have hnews : ∀ j u, ([x] : List Value)[j]? = some u → w.cell? (a.add j) = some u := by
    intro j u hu
    cases j with
    | zero => simp at hu; subst hu; simpa using hx
    | succ j => simp at hu
  have hb1 : (xs.length + 1) * i.bytes ≤ 1000000 * 1000 := Nat.mul_le_mul h63 hby
  have grown : ∀ (old : Nat), old < xs.length + 1 → ∀ (row : Option Nat),
      Que base (w.drew.alloc (.cells (xs.toArray ++ [x].toArray ++ Builtin.zeroCells z.cells (grownCap w (xs.length + 1) old e - (xs.length + 1))) e)) e
        (.slice (some ⟨w.heap.size, 0, none⟩) (xs.length + 1) (grownCap w (xs.length + 1) old e)) (xs ++ [x]) ∧
      w.grownBy (w.drew.alloc (.cells (xs.toArray ++ [x].toArray ++ Builtin.zeroCells z.cells (grownCap w (xs.length + 1) old e - (xs.length + 1))) e)) row := by
    intro old ho row
    have hge := grownCap_ge w (xs.length + 1) old e
    have hcm : grownCap w (xs.length + 1) old e ≤ maxLen := grownCap_le_maxLen w (xs.length + 1) old e (by simp only [maxLen]; omega)
    refine ⟨.inr ⟨w.heap.size, 0, _, _, by simp, hbase, heap_alloc_new w.drew _, by simpa using hge, hcm, ?_, ?_⟩, ⟨rfl, rfl, rfl, by simp, fun k hk _ => heap_alloc_old w.drew _ _ hk⟩⟩
    · simp only [Array.size_append, List.size_toArray, size_zeroCells, hzs, List.length_cons, List.length_nil]
      omega
    · simp only [Array.toList_append, List.drop_zero]
      exact List.take_left
  rcases hown with ⟨rfl, rfl⟩ | ⟨g, k, cap, cur, rfl, hbg, hg, hnc, hcm, hks, htake⟩
  · have hr := run_append_nil (P := P) w t ty e i z ht hi hz a 1 c [x] (by simp [hsize]) hnews (by omega) (by omega) (by simpa using (show (0 + 1) * i.bytes ≤ 281474976710656 by simp at hb1 ⊢; omega))
    have hgr := grown 0 (by simp) (Value.ownBlock (.slice none 0 0))
    simp only [List.length_nil, Nat.zero_add, List.nil_append, Array.empty_append] at hgr ⊢
    exact ⟨_, _, hr, hgr.1, hgr.2, Or.inr rfl⟩
  · by_cases hroom : xs.length + 1 ≤ cap
    · have hf := run_firstCells_some (P := P) w i.size 1 a 1 c [x] (by simp [hsize]) hnews
      rw [hsize] at hf
      have hst := run_storeCells_at P g (k + xs.length) e [x] 0 cur w hg (by simp; omega) (by simpa using h1)
      simp only [Nat.add_zero, List.length_cons, List.length_nil] at hst
      refine ⟨.slice (some ⟨g, k, none⟩) (xs.length + 1) cap, w.setRow g (cur.toList.take (k + xs.length) ++ [x] ++ cur.toList.drop (k + xs.length + (0 + 1))).toArray, ?_, .inr ⟨g, k, cap, _, by simp, hbg, setRow_heap w g cur _ e _ hg, by simpa using hroom, hcm, ?_, ?_⟩, ⟨rfl, rfl, rfl, by simp, fun k' _ hk => setRow_other w g k' _ (fun e => hk (by simp [Value.ownBlock, e]))⟩, Or.inl rfl⟩
      · simp [Builtin.append_, run_underlying ht, sizeOf, typeInfo, hi, Builtin.lenOf, hroom, hf, hsize, Addr.add_lit, hst]
      · simp only [List.size_toArray, List.length_append, List.length_take, List.length_drop, Array.length_toList, List.length_cons, List.length_nil]
        omega
      · have e1 : cur.toList.take (k + xs.length) = cur.toList.take k ++ xs := by rw [List.take_add, htake]
        have hl : (cur.toList.take k).length = k := by simp; omega
        simp only [e1, List.append_assoc]
        rw [List.drop_left' hl, ← List.append_assoc, List.take_left' (by simp)]
    · have holds : ∀ j u, xs[j]? = some u → w.cell? ((⟨g, k, none⟩ : Addr).add j) = some u := fun j u hu => by
        rw [Addr.add_lit, cell_of_row w g (k + j) cur e (0, 0) hg]
        rw [← htake, List.getElem?_take] at hu
        split at hu
        · rw [List.getElem?_drop] at hu; simpa using hu
        · cases hu
      have hr := run_append_grow (P := P) w t ty e i z ht hi hz ⟨g, k, none⟩ xs.length cap xs (by simp [hsize]) holds a 1 c [x] (by simp [hsize]) hnews (by omega) (by omega) (growslice_fits (by omega) (by omega))
      have hgr := grown cap (by omega) (Value.ownBlock (.slice (some ⟨g, k, none⟩) xs.length cap))
      exact ⟨_, _, hr, hgr.1, hgr.2, Or.inr rfl⟩

theorem wp_append_que {w : World} {o : Oper} {a : Act} {K : Act → World → Prop} {Q : Exit → Act → World → Prop} (s y : Operand) (t : TypeId)
    (ho : o.op = .call { callee := .builtin .append, args := #[s, y], argTypes := #[t, t] })
    (base : Nat) (e : TypeId) (i : TypeInfo) (z : Value) (ht : P.underlying t = some (.slice e)) (hi : P.info? e = some i) (hz : i.zero = some z)
    (hsize : i.size = 1) (hby : i.bytes ≤ 1000) (hzs : z.cells.size = 1)
    (v : Value) (xs : List Value) (hs : a.eval s = v) (hown : Que base w e v xs)
    (ad : Addr) (c : Nat) (x : Value) (hy : a.eval y = .slice (some ad) 1 c) (hx : w.cell? (ad.add 0) = some x) (h1 : x.oneCell' = true)
    (h63 : xs.length + 1 ≤ 1000000) (hbase : base ≤ w.heap.size)
    (h : ∀ v' w', Que base w' e v' (xs ++ [x]) → w.grownBy w' v.ownBlock → (v'.ownBlock = v.ownBlock ∨ v'.ownBlock = some w.heap.size) → K (a.put o.dst v') w') : o.wp P a w K Q := by
  obtain ⟨v', w', hr, h2, h3, h4⟩ := run_append_que (P := P) w base t o.type e i z ht hi hz hsize hby hzs v xs hown ad c x hx h1 h63 hbase
  unfold Oper.wp execOp
  simp only [ho, resolve, invoke, builtin, Sem.run_bind, Sem.run_pure, Result.andThen_ok, List.map_toArray, List.map_cons, List.map_nil, hs, hy, hr]
  exact h v' w' h2 h3 h4

theorem wpList_append_que {w : World} {ops : Array Oper} {rest : List Oper} {o : Oper} {a : Act} {Q : Exit → Act → World → Prop} (hgd : o.guard = none) (s y : Operand) (t : TypeId)
    (ho : o.op = .call { callee := .builtin .append, args := #[s, y], argTypes := #[t, t] })
    (base : Nat) (e : TypeId) (i : TypeInfo) (z : Value) (ht : P.underlying t = some (.slice e)) (hi : P.info? e = some i) (hz : i.zero = some z)
    (hsize : i.size = 1) (hby : i.bytes ≤ 1000) (hzs : z.cells.size = 1)
    (v : Value) (xs : List Value) (hs : a.eval s = v) (hown : Que base w e v xs)
    (ad : Addr) (c : Nat) (x : Value) (hy : a.eval y = .slice (some ad) 1 c) (hx : w.cell? (ad.add 0) = some x) (h1 : x.oneCell' = true)
    (h63 : xs.length + 1 ≤ 1000000) (hbase : base ≤ w.heap.size)
    (h : ∀ v' w', Que base w' e v' (xs ++ [x]) → w.grownBy w' v.ownBlock → (v'.ownBlock = v.ownBlock ∨ v'.ownBlock = some w.heap.size) → wpList P ops Q rest (a.put o.dst v') w') : wpList P ops Q (o :: rest) a w :=
  wpList_plain hgd fun _ hK => wp_append_que s y t ho base e i z ht hi hz hsize hby hzs v xs hs hown ad c x hy hx h1 h63 hbase fun v' w' h2 h3 h4 => hK _ _ (h v' w' h2 h3 h4)
end
end Go.Proofs.Ytjnjhfificpbbaa
namespace Go.Proofs.Ytjnjhfificpbbaa
open Go Go.RowKit

theorem len_unrL (n i : Nat) : (unrL n i).length = n := by unfold unrL; rw [length_unr]
/-- the ranks of some permutations -/
def rks (S : List (List Int)) : List Int := S.map fun p => (rankL p : Int)
/-- the permutations of n points whose ranks are marked, in their order -/
def rl (n : Nat) (s : List Int) : List (List Int) := ((List.range (fact n)).filter fun r : Nat => decide ((r : Int) ∈ s)).map (unrL n)
theorem rl_mem {n : Nat} (h1 : 1 ≤ n) (h7 : n ≤ 7) (s : List Int) (p : List Int) : p ∈ rl n s ↔ validL p = true ∧ p.length = n ∧ (rankL p : Int) ∈ s := by
  unfold rl
  rw [List.mem_map]
  constructor
  · rintro ⟨r, hr, rfl⟩
    rw [List.mem_filter, List.mem_range] at hr
    exact ⟨unrL_valid h1 h7 hr.1, len_unrL n r, by rw [rank_unrL hr.1]; exact of_decide_eq_true hr.2⟩
  · rintro ⟨hv, rfl, hf⟩
    obtain ⟨e, hlt⟩ := unrL_rank hv
    exact ⟨rankL p, List.mem_filter.2 ⟨List.mem_range.2 hlt, decide_eq_true hf⟩, e⟩
theorem rank_inj {p q : List Int} (hp : validL p = true) (hq : validL q = true) (hl : p.length = q.length) (h : rankL p = rankL q) : p = q := by
  rw [← (unrL_rank hp).1, ← (unrL_rank hq).1, hl, h]
theorem rks_mem {S : List (List Int)} {n : Nat} (hS : ∀ x ∈ S, validL x = true ∧ x.length = n) {p : List Int} (hv : validL p = true) (hl : p.length = n) : (rankL p : Int) ∈ rks S ↔ p ∈ S := by
  unfold rks
  rw [List.mem_map]
  constructor
  · rintro ⟨x, hx, e⟩
    have := hS x hx
    rw [← rank_inj this.1 hv (this.2.trans hl.symm) (by omega)]; exact hx
  · exact fun h => ⟨p, h, rfl⟩
theorem rl_rks {S : List (List Int)} {n : Nat} (h1 : 1 ≤ n) (h7 : n ≤ 7) (hS : ∀ x ∈ S, validL x = true ∧ x.length = n) (p : List Int) : p ∈ rl n (rks S) ↔ p ∈ S := by
  rw [rl_mem h1 h7]
  constructor
  · rintro ⟨hv, hl, hm⟩; exact (rks_mem hS hv hl).1 hm
  · exact fun h => ⟨(hS p h).1, (hS p h).2, (rks_mem hS (hS p h).1 (hS p h).2).2 h⟩
theorem rks_snoc (S : List (List Int)) (p : List Int) : rks (S ++ [p]) = rks S ++ [(rankL p : Int)] := by simp [rks]

theorem less_cmp : ∀ p q : List Int, p.length = q.length → lessL p q = true → cmpLex p q < 0
  | [], [], _, h => by simp [lessL] at h
  | [], _ :: _, hl, _ => by simp at hl
  | _ :: _, [], hl, _ => by simp at hl
  | x :: p, y :: q, hl, h => by
    have ih := less_cmp p q (by simpa using hl)
    rw [lessL] at h
    rw [cmpLex]
    by_cases e : x = y
    · subst e
      rw [if_pos rfl] at h
      rw [if_neg (by omega), if_neg (by omega)]
      exact ih h
    · rw [if_neg e] at h
      rw [if_pos (of_decide_eq_true h)]; decide
theorem cmp_less : ∀ p q : List Int, p.length = q.length → cmpLex p q < 0 → lessL p q = true
  | [], [], _, h => by simp [cmpLex] at h
  | [], _ :: _, hl, _ => by simp at hl
  | _ :: _, [], hl, _ => by simp at hl
  | x :: p, y :: q, hl, h => by
    have ih := cmp_less p q (by simpa using hl)
    rw [cmpLex] at h
    rw [lessL]
    by_cases e : x = y
    · subst e
      rw [if_neg (by omega), if_neg (by omega)] at h
      rw [if_pos rfl]
      exact ih h
    · rw [if_neg e]
      by_cases h2 : x < y
      · exact decide_eq_true h2
      · rw [if_neg h2, if_pos (by omega)] at h
        omega
theorem range_sorted (m : Nat) : (List.range m).Pairwise (· < ·) := List.pairwise_lt_range
theorem rl_rise {n : Nat} (s : List Int) : (rl n s).Pairwise fun a b => cmpLex a b < 0 := by
  unfold rl
  rw [List.pairwise_map]
  have h := (range_sorted (fact n)).filter (fun r : Nat => decide ((r : Int) ∈ s))
  refine List.Pairwise.imp_of_mem ?_ h
  intro a b ha hb hab
  have ha' := List.mem_range.1 (List.mem_filter.1 ha).1
  have hb' := List.mem_range.1 (List.mem_filter.1 hb).1
  exact less_cmp _ _ (by rw [len_unrL, len_unrL]) (by rw [less_unrL ha' hb']; exact decide_eq_true hab)
theorem rl_len {n : Nat} (s : List Int) : ∀ p ∈ rl n s, p.length = n := fun p hp => by
  obtain ⟨r, _, rfl⟩ := List.mem_map.1 hp
  exact len_unrL n r
theorem rl_count {n : Nat} (s : List Int) : (rl n s).length ≤ fact n := by
  unfold rl
  rw [List.length_map]
  exact Nat.le_trans (List.length_filter_le _ _) (by simp)
theorem pks_rise {n : Nat} {ps : List (List Int)} (hl : ∀ p ∈ ps, p.length = n) (h : ps.Pairwise fun a b => cmpLex a b < 0) : (pks ps).Nodup ∧ Asc (pks ps) := by
  have h2 : (pks ps).Pairwise fun a b => cmpLex a b < 0 := by
    unfold pks
    rw [List.pairwise_map]
    refine List.Pairwise.imp_of_mem ?_ h
    intro a b ha hb hab
    rw [cmp_pk ((hl a ha).trans (hl b hb).symm)]; exact hab
  refine ⟨?_, ?_⟩
  · unfold List.Nodup
    exact h2.imp fun {a b} hab e => by rw [e, cmpLex_self] at hab; omega
  · unfold Asc
    exact h2.imp fun {a b} hab hba => by rw [cmpLex_neg] at hba; omega
theorem pks_take {n : Nat} {ps : List (List Int)} (hl : ∀ p ∈ ps, p.length = n) : (pks ps).map (List.take n) = ps := by
  unfold pks
  rw [List.map_map]
  conv => rhs; rw [← List.map_id ps]
  exact List.map_congr_left fun p hp => by have := pk7_take p; rw [hl p hp] at this; exact this
/-- what perms hands back and what the reference lists are equal where they have the same members -/
theorem perms_rl {n : Nat} {L L' : List (List Int)} {s : List Int} (h1 : 1 ≤ n) (h7 : n ≤ 7) (hp : L'.Perm L) (ha : Asc L') (hn : L.Nodup) (hpk : ∀ a ∈ L, ∃ p, validL p = true ∧ p.length = n ∧ a = pk7 p) (hs : ∀ p, validL p = true → p.length = n → ((rankL p : Int) ∈ s ↔ pk7 p ∈ L)) : L'.map (List.take n) = rl n s := by
  obtain ⟨e1, e2⟩ := pks_rise (rl_len s) (rl_rise (n := n) s)
  have e : L' = pks (rl n s) := asc_uniq (hp.nodup_iff.2 hn) e1 ha e2 fun a => by
    rw [hp.mem_iff]
    unfold pks
    rw [List.mem_map]
    constructor
    · intro h
      obtain ⟨p, hv, hl, rfl⟩ := hpk a h
      exact ⟨p, (rl_mem h1 h7 s p).2 ⟨hv, hl, (hs p hv hl).2 h⟩, rfl⟩
    · rintro ⟨p, hp', rfl⟩
      obtain ⟨hv, hl, hm⟩ := (rl_mem h1 h7 s p).1 hp'
      exact (hs p hv hl).1 hm
  rw [e, pks_take (rl_len s)]

/-! ### the search -/
/-- D: whose products were all looked at; T: still to come -/
structure Bq (n : Nat) (gs S : List (List Int)) : Prop where
  val : ∀ x ∈ S, validL x = true ∧ x.length = n ∧ Gen (pks gs) (pk7 x)
  nd : S.Nodup
  one : idL n ∈ S
def ClsBy (gs D S : List (List Int)) : Prop := ∀ x ∈ D, ∀ g ∈ gs, mulL x g ∈ S
theorem Bq.start {n : Nat} {gs : List (List Int)} (h1 : 1 ≤ n) (h7 : n ≤ 7) : Bq n gs [idL n] := ⟨fun x hx => by
  rw [List.mem_singleton.1 hx]
  exact ⟨idL_valid h1 h7, length_idL n, by rw [pk7_id h7]; exact .one⟩, by simp, by simp⟩
theorem Bq.valid {n : Nat} {gs S : List (List Int)} (h : Bq n gs S) : ∀ x ∈ S, validL x = true ∧ x.length = n := fun x hx => ⟨(h.val x hx).1, (h.val x hx).2.1⟩
theorem Bq.le {n : Nat} {gs S : List (List Int)} (h : Bq n gs S) : S.length ≤ fact n :=
  perms_le n (idL n) S (length_idL n) h.nd fun p hp => by
    have := valid_perm (h.val p hp).1
    rwa [(h.val p hp).2.1] at this
theorem Bq.push {n : Nat} {gs S : List (List Int)} {p g : List Int} (h : Bq n gs S) (hg : g ∈ gs) (hv : validL g = true ∧ g.length = n) (hp : p ∈ S) (hn : mulL p g ∉ S) : Bq n gs (S ++ [mulL p g]) := by
  obtain ⟨v1, v2, v3⟩ := h.val p hp
  have hl := v2.trans hv.2.symm
  refine ⟨fun x hx => ?_, ?_, List.mem_append.2 (.inl h.one)⟩
  · rcases List.mem_append.1 hx with hx | hx
    · exact h.val x hx
    · rw [List.mem_singleton.1 hx]
      exact ⟨mulL_valid v1 hv.1 hl, (length_mulL p g).trans v2, by rw [pk7_mul v1 hv.1 hl]; exact v3.step (List.mem_map.2 ⟨g, hg, rfl⟩)⟩
  · rw [List.nodup_append]
    exact ⟨h.nd, by simp, fun a ha b hb e => hn (by rw [List.mem_singleton.1 hb] at e; rw [← e]; exact ha)⟩
theorem ClsBy.more {gs D S T : List (List Int)} (h : ClsBy gs D S) : ClsBy gs D (S ++ T) := fun x hx g hg => List.mem_append.2 (.inl (h x hx g hg))
/-- nothing is left: the search has found the group -/
theorem Bq.done {n : Nat} {gs S : List (List Int)} (h7 : n ≤ 7) (h : Bq n gs S) (hc : ClsBy gs S S) (hg : ∀ g ∈ gs, validL g = true ∧ g.length = n) {p : List Int} (hv : validL p = true) (hl : p.length = n) : (rankL p : Int) ∈ rks S ↔ Gen (pks gs) (pk7 p) := by
  rw [rks_mem h.valid hv hl]
  refine ⟨fun hp => (h.val p hp).2.2, fun hp => ?_⟩
  have := hp.least (S := fun a => ∃ q ∈ S, a = pk7 q) ⟨idL n, h.one, (pk7_id h7).symm⟩ (fun a g ⟨q, hq, e⟩ hm => by
    obtain ⟨g', hg', rfl⟩ := List.mem_map.1 hm
    obtain ⟨v1, v2⟩ := h.valid q hq
    obtain ⟨u1, u2⟩ := hg g' hg'
    exact ⟨mulL q g', hc q hq g' hg', by rw [e, pk7_mul v1 u1 (v2.trans u2.symm)]⟩)
  obtain ⟨q, hq, e⟩ := this
  rw [pk7_same (hl.trans (h.valid q hq).2.symm) e]; exact hq
end Go.Proofs.Ytjnjhfificpbbaa
namespace Go.Proofs.Ytjnjhfificpbbaa
open Go Go.RowKit

/-- the value of a set: n points, the marks in block g -/
def setV (n g : Nat) : Value := .agg #[.int .i64 n, .slice (some ⟨g, 0, none⟩) (fact n) (fact n)]
/-- the result of a function that hands back a set -/
theorem infoSet : (Try.prog.info? 63).map (·.size) = some 2 := by kernel_rfl
theorem res_set {fn : Func} {p : Tmp} (h : fn.results = #[.cell p 63]) (tmps : Array Value) (W : World) (b : Nat) (x y : Value) (hp : tmps.getD p undef = .pointer (some ⟨b, 0, none⟩)) (hb : Blk W b 63 #[x, y]) :
    (results fn tmps).run Try.prog W = .ok (.agg #[x, y]) W := results_cell_row h tmps W b 63 #[x, y] (0, 0) _ hp hb Try.underlying63 rfl infoSet

set_option maxRecDepth 100000 in
set_option maxHeartbeats 2000000 in
theorem SetOf_any (n : Nat) (v : Value) (ps : List (List Int)) (w : World) (h1 : 1 ≤ n) (h7 : n ≤ 7) (h : Sps w v ps) (hv : ∀ p ∈ ps, validL p = true ∧ p.length = n) (hl : ps.length ≤ 1000000) :
    Calls Try.prog 53 #[.int .i64 n, v] w fun e w' => ∃ g, e = .returned (setV n g) ∧ w.heap.size ≤ g ∧ Blk w' g 4 (mkm (fact n) (rks ps)) ∧ Below w.heap.size w w' := by
  obtain ⟨ib, hib, hb0, hb1, hb2⟩ := info_parts infoMark
  have HS := Lib.hid h
  have HV := Lib.hid hv
  obtain ⟨a, cap, rfl, _⟩ := h
  obtain ⟨m, hm⟩ : ∃ m, m = ps.length := ⟨_, rfl⟩
  have HM := Lib.hid hm
  rw [← hm] at HS hl ⊢
  obtain ⟨F, hF⟩ : ∃ F, F = fact n := ⟨_, rfl⟩
  obtain ⟨f1, f2⟩ := fact_le n h7
  rw [← hF] at f1 f2
  have HF := Lib.hid hF
  unfold setV
  rw [← hF]
  clear hm hv hF
  go_enter Try.func53, Try.ntmps53
  go_wp2_with (first | (go_at_call 78; refine (reffact_any 7 n _ h7 h7).mono ?_; rintro e w' ⟨rfl, rfl⟩; rw [← HF.out]) | (at_make; refine wpList_make_full _ rfl _ _ 61 rfl (w.heap.size + 1) 4 ib (.bool false) 1 Try.underlying61 hib hb0 hb1 _ _ _ _ F rfl rfl rfl rfl (by rw [hb2]; omega) (by unfold maxLen; omega) (by simp) ?_; intro w1 hown hgrow))
  have hsz1 : w.heap.size + 2 ≤ w1.heap.size := by
    have h1 := (hown.lt (w.heap.size + 1) (by simp [Value.ownBlock])).2
    omega
  have hb1 := (((Below.refl w.heap.size w).alloc (Nat.le_refl _) (.cells #[.int .i64 0, .slice none 0 0] 63)).grown hgrow (by simp) (fun k e => by cases e)).alloc (by omega) (.cells #[.int .i64 n, .slice (some ⟨w.heap.size + 1, 0, none⟩) F F] 63)
  have B0 : Blk w1 w.heap.size 63 #[.int .i64 0, .slice none 0 0] := (hgrow.block _ (by simp) (by simp)).trans (Blk.new w _ _)
  have B1 : Blk w1 (w.heap.size + 1) 4 (mkm F (rks (ps.take 0))) := by
    have := blk_of_owns hown
    rw [Nat.mul_one, show (Value.bool false).cells = #[Value.bool false] from rfl, toList_madeCells_one, mkm_nil, World.size_alloc] at this
    exact this
  have S0 := Lib.hid (B0.alloc (.cells #[.int .i64 n, .slice (some ⟨w.heap.size + 1, 0, none⟩) F F] 63))
  have S1 := Lib.hid (B1.alloc (.cells #[.int .i64 n, .slice (some ⟨w.heap.size + 1, 0, none⟩) F F] 63))
  have S2 := Lib.hid (Blk.new w1 63 #[.int .i64 n, .slice (some ⟨w.heap.size + 1, 0, none⟩) F F])
  have SB := Lib.hid hb1
  have HZ := Lib.hid hsz1
  obtain ⟨c, hc⟩ : ∃ c, c = w1.heap.size := ⟨_, rfl⟩
  rw [← hc] at S2 HZ ⊢
  clear hown hgrow hb1 B0 B1 hsz1
  generalize (w1.alloc (.cells #[.int .i64 n, .slice (some ⟨w.heap.size + 1, 0, none⟩) F F] 63)) = w2 at *
  clear hc
  go_loopw [6] (fun i wr => ∃ k : Nat, i = .int .i64 k ∧ k ≤ m ∧ Hid (Blk wr w.heap.size 63 #[.int .i64 0, .slice none 0 0]) ∧ Hid (Blk wr (w.heap.size + 1) 4 (mkm F (rks (ps.take k)))) ∧ Hid (Blk wr c 63 #[.int .i64 n, .slice (some ⟨w.heap.size + 1, 0, none⟩) F F]) ∧ Hid (Below w.heap.size w wr)) (fun i _ => m - (intOf i).toNat)
  case atStart => exact ⟨0, rfl, Nat.zero_le _, S0, S1, S2, SB⟩
  case round =>
    clear S0 S1 S2 SB
    obtain ⟨k, rfl, hk, S0, S1, S2, SB⟩ := hrel
    by_cases hlt : k < m
    · obtain ⟨a', cap', e1, hs⟩ := HS.out
      injection e1 with e1 e2 e3
      subst e1 e3
      clear e2
      rcases hs with hs | ⟨b, off, rfl, hs⟩
      · have := HM.out; rw [hs] at this; simp at this; omega
      obtain ⟨x, g0, s0⟩ := hs k (by rw [← HM.out]; exact hlt)
      have g1 : wr.cell? ⟨b, off + k, none⟩ = some x := (SB.out.cell (p := ⟨b, off + k, none⟩) (World.block_lt_of_cell? w _ g0)).trans g0
      have s1 := s0.below SB.out
      obtain ⟨p, hp⟩ : ∃ p, p = ps.getD k [] := ⟨_, rfl⟩
      rw [← hp] at s1
      have hpm : p ∈ ps := by rw [hp]; have := HM.out; simp [show k < ps.length by omega]
      obtain ⟨pv, pl⟩ := HV.out p hpm
      have hr := (unrL_rank pv).2
      rw [pl, ← HF.out] at hr
      obtain ⟨R, hR⟩ : ∃ R, R = rankL p := ⟨_, rfl⟩
      rw [← hR] at hr
      have HCall := Lib.hid (show ∀ j, Calls Try.prog 54 #[x] (wr.drewN j) fun e w'' => e = .returned (.int .i64 R) ∧ ∃ i, w'' = (wr.drewN j).drewN i from fun j => by
        rw [hR]
        exact refrank_any _ _ _ (s1.below (below_drewN' (Below.refl _ _) j)) (by omega))
      have q1 : wr.cell? ⟨c, 1, none⟩ = some (.slice (some ⟨w.heap.size + 1, 0, none⟩) F F) := by rw [S2.out.cell 1]; rfl
      have q2 : wr.cell? ⟨w.heap.size + 1, R, none⟩ = some (.bool (decide ((R : Int) ∈ rks (ps.take k)))) := by rw [S1.out.cell R, mkm_get _ _ _ hr]
      have q3 := S1.out.free R
      have e2 : rks (ps.take (k + 1)) = rks (ps.take k) ++ [(R : Int)] := by
        rw [List.take_succ_eq_append_getElem (by rw [← HM.out]; exact hlt), rks_snoc, hR, hp]
        simp [show k < ps.length by have := HM.out; omega]
      have HE := Lib.hid e2
      obtain ⟨xa, xc, rfl, _⟩ := s1
      clear e2 g0 s0 hs hpm hp hR pv pl
      go_wp2
      refine wp_region_quiet_then (C := fun w' => ∃ j, w' = wr.drewN j) 8 (by kernel_rfl) (by kernel_rfl) ⟨1, rfl⟩ ?_
      simp only [List.take_succ_cons, List.take_zero, List.drop_succ_cons, List.drop_zero]
      repeat (go_big_quiet_step (exact Calls.quiet_of (HCall.out _)))
      refine wpQuiet_nil ?_
      rintro _ ⟨j, rfl⟩
      have T0 := Lib.hid (((S0.out.drew j).other (w.heap.size + 1) R (.bool true) (by omega)))
      have T1 := Lib.hid (show Blk ((wr.drewN j).setCell ⟨w.heap.size + 1, R, none⟩ (.bool true)) (w.heap.size + 1) 4 (mkm F (rks (ps.take (k + 1)))) from by
        have hset := (S1.out.drew j).set R (.bool true)
        rwa [mkm_set, ← HE.out] at hset)
      have T2 := Lib.hid ((S2.out.drew j).other (w.heap.size + 1) R (.bool true) (by have := HZ.out; omega))
      have TB := Lib.hid (show Below w.heap.size w ((wr.drewN j).setCell ⟨w.heap.size + 1, R, none⟩ (.bool true)) from (below_drewN' SB.out j).setCell (by show w.heap.size ≤ w.heap.size + 1; omega) _)
      clear S0 S1 S2 SB HE
      go_wp2
      go_roundw
      case rel => exact ⟨k + 1, by go_num, by omega, T0, T1, T2, TB⟩
      case measure => simp [intOf]; omega
    · have hke : k = m := by omega
      have T1 : Blk wr (w.heap.size + 1) 4 (mkm F (rks ps)) := by
        have := S1.out
        rwa [hke, HM.out, List.take_length] at this
      have q1 : wr.cell? ⟨c, 0, none⟩ = some (.int .i64 n) := by rw [S2.out.cell 0]; rfl
      have q2 : wr.cell? ⟨c, 1, none⟩ = some (.slice (some ⟨w.heap.size + 1, 0, none⟩) F F) := by rw [S2.out.cell 1]; rfl
      have q3 : wr.cell? ⟨w.heap.size, 0, none⟩ = some (.int .i64 0) := by rw [S0.out.cell 0]; rfl
      have q4 : wr.cell? ⟨w.heap.size, 1, none⟩ = some (.slice none 0 0) := by rw [S0.out.cell 1]; rfl
      have q5 := S0.out.free 0
      have q6 := S0.out.free 1
      have T1 := Lib.hid T1
      clear hke
      go_wp2
      have R0 := (S0.out.set 0 (.int .i64 n)).set 1 (.slice (some ⟨w.heap.size + 1, 0, none⟩) F F)
      have R1 := (T1.out.other w.heap.size 0 (.int .i64 n) (by omega)).other w.heap.size 1 (.slice (some ⟨w.heap.size + 1, 0, none⟩) F F) (by omega)
      have RB : Below w.heap.size w ((wr.setCell ⟨w.heap.size, 0, none⟩ (.int .i64 n)).setCell ⟨w.heap.size, 1, none⟩ (.slice (some ⟨w.heap.size + 1, 0, none⟩) F F)) := (SB.out.setCell (Nat.le_refl _) _).setCell (Nat.le_refl _) _
      exact bodyPost_ret (res_set rfl _ _ w.heap.size _ _ rfl R0) rfl ⟨w.heap.size + 1, rfl, by omega, R1, RB⟩
end Go.Proofs.Ytjnjhfificpbbaa
namespace Go.Proofs.Ytjnjhfificpbbaa
open Go Go.RowKit

/-- the block of a slice of the call's own bears its type -/
theorem row_typ {B sz n : Nat} {w : World} {e : TypeId} {v : Value} {xs : List Value} (h : w.ownsRow B e sz v n xs) : ∀ b, v.ownBlock = some b → ∃ cur, w.heap[b]? = some (.cells cur e (0, 0)) := by
  intro b hb
  rcases h.2 with ⟨rfl, _⟩ | ⟨g, cap, cur, rfl, _, h2, _⟩
  · cases hb
  · cases hb; exact ⟨cur, h2⟩
/-- a row stands where what has turned is a block of another type -/
theorem row_other {B sz n : Nat} {w w' : World} {e t : TypeId} {v : Value} {xs : List Value} {row : Option Nat} (h : w.ownsRow B e sz v n xs) (hg : w.grownBy w' row) (ht : ∀ b, row = some b → ∃ cur, w.heap[b]? = some (.cells cur t (0, 0))) (hne : e ≠ t) : w'.ownsRow B e sz v n xs := by
  refine h.kept hg ?_
  cases hv : v.ownBlock with
  | none => exact .inl rfl
  | some b =>
    refine .inr fun e1 => ?_
    obtain ⟨c1, k1⟩ := row_typ h b hv
    obtain ⟨c2, k2⟩ := ht b e1.symm
    rw [k1] at k2
    cases k2
    exact hne rfl
theorem Blk.grown {w w' : World} {b : Nat} {t e : TypeId} {cs : Array Value} {row : Option Nat} (h : Blk w b t cs) (hg : w.grownBy w' row) (ht : ∀ c, row = some c → ∃ cur, w.heap[c]? = some (.cells cur e (0, 0))) (hne : t ≠ e) : Blk w' b t cs := by
  refine (hg.block b h.lt fun e1 => ?_).trans h
  obtain ⟨c2, k2⟩ := ht b e1.symm
  unfold Blk at h
  rw [h] at k2
  cases k2
  exact hne rfl
theorem row_below {B sz n : Nat} {w w' : World} {e : TypeId} {v : Value} {xs : List Value} (h : w.ownsRow B e sz v n xs) (hb : Below w.heap.size w w') : w'.ownsRow B e sz v n xs := by
  refine ⟨h.1, ?_⟩
  rcases h.2 with h2 | ⟨g, cap, cur, rfl, h3, h4, h5⟩
  · exact .inl h2
  · exact .inr ⟨g, cap, cur, rfl, h3, (hb.block g (Array.getElem?_eq_some_iff.1 h4).1).trans h4, h5⟩
/-- append of a new permutation -/
theorem Owp.push {B : Nat} {w w' : World} {v v' y tmp : Value} {ps : List (List Int)} {p : List Int} {vs : List Value} (hl : vs.length = ps.length) (h : w.ownsRow B 32 1 v ps.length vs) (hp : ∀ i, i < ps.length → Ow B w (vs.getD i undef) (ps.getD i [])) (hy : Ow B w y p)
    (ho : w'.ownsRow B 32 1 v' (ps.length + 1) (vs ++ [y])) (hg : (w.alloc (.cells #[tmp] 32)).grownBy w' v.ownBlock) : Owp B w' v' (ps ++ [p]) := by
  have ht : ∀ b, v.ownBlock = some b → ∃ cur, (w.alloc (.cells #[tmp] 32)).heap[b]? = some (.cells cur 32 (0, 0)) := row_typ (h.alloc _)
  have keep : ∀ {x q}, Ow B w x q → Ow B w' x q := fun {x q} hx => row_other (t := 32) (World.ownsRow.alloc hx _) hg ht (by decide)
  refine ⟨vs ++ [y], by simp [hl], by simpa using ho, fun i hi => ?_⟩
  rw [List.length_append] at hi
  simp only [List.length_cons, List.length_nil] at hi
  by_cases e : i < ps.length
  · have e1 : (vs ++ [y]).getD i undef = vs.getD i undef := by simp [List.getD_eq_getElem?_getD, List.getElem?_append_left (show i < vs.length by omega)]
    have e2 : (ps ++ [p]).getD i [] = ps.getD i [] := by simp [List.getD_eq_getElem?_getD, List.getElem?_append_left e]
    rw [e1, e2]; exact keep (hp i e)
  · have e0 : i = ps.length := by omega
    have e1 : (vs ++ [y]).getD i undef = y := by rw [e0, ← hl]; simp
    have e2 : (ps ++ [p]).getD i [] = p := by rw [e0]; simp
    rw [e1, e2]; exact keep hy

/-- the marked ranks below k -/
def rlTo (n : Nat) (s : List Int) (k : Nat) : List (List Int) := ((List.range k).filter fun r : Nat => decide ((r : Int) ∈ s)).map (unrL n)
theorem rlTo_yes {n k : Nat} {s : List Int} (h : (k : Int) ∈ s) : rlTo n s (k + 1) = rlTo n s k ++ [unrL n k] := by
  unfold rlTo; rw [List.range_succ, List.filter_append]; simp [h]
theorem rlTo_no {n k : Nat} {s : List Int} (h : (k : Int) ∉ s) : rlTo n s (k + 1) = rlTo n s k := by
  unfold rlTo; rw [List.range_succ, List.filter_append]; simp [h]
theorem rlTo_len (n k : Nat) (s : List Int) : (rlTo n s k).length ≤ k := by
  unfold rlTo; rw [List.length_map]; exact Nat.le_trans (List.length_filter_le _ _) (by simp)
theorem infoPerm3 : (Try.prog.info? 32).map (fun i => (i.zero, i.size, i.bytes)) = some (some (.slice none 0 0), 1, 24) := by kernel_rfl

set_option maxRecDepth 100000 in
set_option maxHeartbeats 2000000 in
theorem List_any (n g : Nat) (s : List Int) (w : World) (h1 : 1 ≤ n) (h7 : n ≤ 7) (hB : Blk w g 4 (mkm (fact n) s)) :
    Calls Try.prog 55 #[setV n g] w fun e w' => ∃ x, e = .returned x ∧ Owp w.heap.size w' x (rl n s) ∧ Below w.heap.size w w' := by
  obtain ⟨i1, hq, hq0, hq1, hq2⟩ := info_parts infoPerm3
  obtain ⟨F, hF⟩ : ∃ F, F = fact n := ⟨_, rfl⟩
  obtain ⟨f1, f2⟩ := fact_le n h7
  rw [← hF] at f1 f2
  have HF := Lib.hid hF
  rw [← hF] at hB
  have HM := Lib.hid hB
  have hgl := hB.lt
  have HR := Lib.hid (show rlTo n s F = rl n s by rw [hF]; rfl)
  unfold setV
  rw [← hF]
  have S0 := Lib.hid (Blk.new w 63 #[.int .i64 n, .slice (some ⟨g, 0, none⟩) F F])
  have SB := Lib.hid ((Below.refl w.heap.size w).alloc (Nat.le_refl _) (.cells #[.int .i64 n, .slice (some ⟨g, 0, none⟩) F F] 63))
  clear hF hB
  go_enter Try.func55, Try.ntmps55
  go_wp2_with fail
  generalize (w.alloc (.cells #[.int .i64 n, .slice (some ⟨g, 0, none⟩) F F] 63)) = w1 at *
  go_loopw [3, 4] (fun v i wr => ∃ k : Nat, i = .int .i64 k ∧ k ≤ F ∧ Hid (Blk wr w.heap.size 63 #[.int .i64 n, .slice (some ⟨g, 0, none⟩) F F]) ∧ Hid (Owp w.heap.size wr v (rlTo n s k)) ∧ Hid (Below w.heap.size w wr)) (fun _ i _ => F - (intOf i).toNat)
  case atStart => exact ⟨0, rfl, Nat.zero_le _, S0, Lib.hid ⟨[], rfl, World.ownsRow_nil _ _ _ _, fun i hi => by simp [rlTo] at hi⟩, SB⟩
  case round =>
    clear S0 SB
    obtain ⟨k, rfl, hk, S0, SO, SB⟩ := hrel
    have q0 : wr.cell? ⟨w.heap.size, 0, none⟩ = some (.int .i64 n) := by rw [S0.out.cell 0]; rfl
    have q1 : wr.cell? ⟨w.heap.size, 1, none⟩ = some (.slice (some ⟨g, 0, none⟩) F F) := by rw [S0.out.cell 1]; rfl
    by_cases hlt : k < F
    · have q2 : wr.cell? ⟨g, k, none⟩ = some (.bool (decide ((k : Int) ∈ s))) := by rw [(HM.out.below SB.out).cell k, mkm_get _ _ _ hlt]
      by_cases hin : (k : Int) ∈ s
      · rw [decide_eq_true hin] at q2
        have HE := Lib.hid (rlTo_yes (n := n) hin)
        have hll := rlTo_len n k s
        obtain ⟨vs, o1, o2, o3⟩ := SO.out
        have O1 := Lib.hid o1
        have O2 := Lib.hid o2
        have O3 := Lib.hid o3
        obtain ⟨L, hL⟩ : ∃ L, L = rlTo n s k := ⟨_, rfl⟩
        rw [← hL] at HE O1 O2 O3 hll
        clear hin o1 o2 o3 hL SO
        go_wp2_with fail
        refine (refunr_any n k _ h1 h7 (by rw [← HF.out]; exact hlt)).mono ?_
        rintro e w2 ⟨y, rfl, hy, hb2⟩
        have P0 := Lib.hid (S0.out.below hb2)
        have P2 := O2.out
        have P2 : w2.ownsRow w.heap.size 32 1 u3 L.length vs := row_below P2 hb2
        have P3 := Lib.hid (show ∀ i, i < L.length → Ow w.heap.size w2 (vs.getD i undef) (L.getD i []) from fun i hi => (O3.out i hi).below hb2)
        have PY := Lib.hid (hy.mono SB.out.size)
        have PB := Lib.hid (SB.out.trans (hb2.mono SB.out.size))
        have hz2 := (SB.out.trans (hb2.mono SB.out.size)).size
        obtain ⟨ya, yc, rfl, _⟩ := hy.sl
        clear hy hb2 S0 O2 O3 SB q0 q1 q2
        go_wp2_with (at_builtin; go_loud (refine wpList_append_own _ rfl _ _ 22 rfl w.heap.size 32 i1 (.slice none 0 0) 1 24 Try.underlying22 hq hq0 hq1 hq2 rfl (by decide) _ _ _ rfl (P2.alloc _) ⟨w2.heap.size, 0, none⟩ 1 1 [.slice ya (unrL n k).length yc] rfl rfl (cell_one_new _ _ _) (by simp [Value.oneCell']) (by unfold maxLen; omega) (by omega) (by simp; omega) ?_; intro v' w3 hown' hgrow _))
        have T0 := Lib.hid ((P0.out.alloc _).grown hgrow (row_typ (P2.alloc _)) (by decide))
        have TO := Lib.hid (show Owp w.heap.size w3 v' (rlTo n s (k + 1)) from by rw [HE.out]; exact Owp.push O1.out P2 P3.out PY.out hown' hgrow)
        have TB := Lib.hid ((PB.out.alloc hz2 _).grown hgrow (by simp; omega) (fun r e => (P2.lt r e).1))
        clear hown' hgrow P2 P0 P3 PY PB hz2
        go_wp2
        go_roundw
        case rel => exact ⟨k + 1, by go_num, by omega, T0, TO, TB⟩
        case measure => simp [intOf]; omega
      · rw [decide_eq_false hin] at q2
        have TO := Lib.hid (show Owp w.heap.size wr u3 (rlTo n s (k + 1)) from by rw [rlTo_no hin]; exact SO.out)
        clear hin SO
        go_wp2_with fail
        go_roundw
        case rel => exact ⟨k + 1, by go_num, by omega, S0, TO, SB⟩
        case measure => simp [intOf]; omega
    · have hke : k = F := by omega
      have TO := Lib.hid (show Owp w.heap.size wr u3 (rl n s) from by rw [← HR.out, ← hke]; exact SO.out)
      clear hke SO
      go_wp2_with fail
      go_ret
      exact ⟨_, rfl, TO.out, SB.out⟩
end Go.Proofs.Ytjnjhfificpbbaa
namespace Go.Proofs.Ytjnjhfificpbbaa
open Go Go.RowKit

theorem row_set {B sz n g i : Nat} {w : World} {e t : TypeId} {v u : Value} {xs : List Value} {cs : Array Value} (h : w.ownsRow B e sz v n xs) (hb : Blk w g t cs) (hne : e ≠ t) : (w.setCell ⟨g, i, none⟩ u).ownsRow B e sz v n xs := by
  refine ⟨h.1, ?_⟩
  rcases h.2 with h2 | ⟨b, cap, cur, rfl, h3, h4, h5⟩
  · exact .inl h2
  · refine .inr ⟨b, cap, cur, rfl, h3, (heap_setCell_other w ⟨g, i, none⟩ b u (fun e1 => ?_)).trans h4, h5⟩
    have e1 : b = g := e1
    subst e1
    unfold Blk at hb
    rw [hb] at h4
    cases h4
    exact hne rfl
theorem que_set {B g i : Nat} {w : World} {e t : TypeId} {v u : Value} {xs : List Value} {cs : Array Value} (h : Que B w e v xs) (hb : Blk w g t cs) (hne : e ≠ t) : Que B (w.setCell ⟨g, i, none⟩ u) e v xs := by
  refine h.same fun b hv => heap_setCell_other w ⟨g, i, none⟩ b u (fun e1 => ?_)
  have e1 : b = g := e1
  subst e1
  obtain ⟨cur, hc⟩ := h.typ b hv
  unfold Blk at hb
  rw [hb] at hc
  cases hc
  exact hne rfl

theorem Blk.ne {w : World} {b b' : Nat} {t t' : TypeId} {cs cs' : Array Value} (h : Blk w b t cs) (h' : Blk w b' t' cs') (hne : t ≠ t') : b ≠ b' := fun e => by
  unfold Blk at h h'
  rw [e, h'] at h
  injection h with h
  injection h with _ h
  exact hne h.symm
theorem rank_id : ∀ n, n ≤ 7 → rankL (idL n) = 0 := by decide
/-- the state of the search: the set in block c, its marks in block g, the queue tv -/
structure CSt (W c g n : Nat) (gs : List (List Int)) (w wr : World) (tv : Value) (D T : List (List Int)) (xs : List Value) : Prop where
  st : Blk wr c 63 #[.int .i64 n, .slice (some ⟨g, 0, none⟩) (fact n) (fact n)]
  mrk : Blk wr g 4 (mkm (fact n) (rks (D ++ T)))
  qu : Que W wr 32 tv xs
  ln : xs.length = T.length
  rw : ∀ i, i < T.length → Ow W wr (xs.getD i undef) (T.getD i [])
  bq : Bq n gs (D ++ T)
  be : Below W w wr
  lo : W ≤ g
  lw : W ≤ w.heap.size

section
variable {W c g n : Nat} {gs : List (List Int)} {w wr w' : World} {tv tv' x y : Value} {D T : List (List Int)} {xs : List Value} {p q : List Int}
theorem CSt.below (h : CSt W c g n gs w wr tv D T xs) (hb : Below wr.heap.size wr w') : CSt W c g n gs w w' tv D T xs :=
  ⟨h.st.below hb, h.mrk.below hb, h.qu.below hb, h.ln, fun i hi => (h.rw i hi).below hb, h.bq, h.be.trans (hb.mono (Nat.le_trans h.lw h.be.size)), h.lo, h.lw⟩
theorem CSt.pop {b k cap N : Nat} (h : CSt W c g n gs w wr (.slice (some ⟨b, k, none⟩) (N + 1) cap) D (p :: T) (x :: xs)) : CSt W c g n gs w wr (.slice (if cap = 1 then some ⟨b, k, none⟩ else some ⟨b, k + 1, none⟩) N (cap - 1)) (D ++ [p]) T xs :=
  ⟨h.st, by rw [List.append_assoc]; exact h.mrk, h.qu.tail, by have := h.ln; simpa using this, fun i hi => by have := h.rw (i + 1) (by simpa using hi); simpa using this, by rw [List.append_assoc]; exact h.bq, h.be, h.lo, h.lw⟩
theorem CSt.push (h : CSt W c g n gs w wr tv D T xs) (hy : Ow W wr y q) (hq : Bq n gs (D ++ T ++ [q])) (tmp : Value) (ho : Que W w' 32 tv' (xs ++ [y])) (hg : ((wr.setCell ⟨g, rankL q, none⟩ (.bool true)).alloc (.cells #[tmp] 32)).grownBy w' tv.ownBlock) : CSt W c g n gs w w' tv' D (T ++ [q]) (xs ++ [y]) := by
  have q1 := que_set (i := rankL q) (u := .bool true) h.qu h.mrk (by decide)
  have ht : ∀ b, tv.ownBlock = some b → ∃ cur, ((wr.setCell ⟨g, rankL q, none⟩ (.bool true)).alloc (.cells #[tmp] 32)).heap[b]? = some (.cells cur 32 (0, 0)) := (q1.below ((Below.refl _ _).alloc (Nat.le_refl _) (.cells #[tmp] 32))).typ
  have keep : ∀ {u r}, Ow W wr u r → Ow W w' u r := fun {u r} hx => row_other (t := 32) (World.ownsRow.alloc (row_set hx h.mrk (by decide)) _) hg ht (by decide)
  have hcg : c ≠ g := h.st.ne h.mrk (by decide)
  refine ⟨((h.st.other g (rankL q) (.bool true) hcg).alloc _).grown hg ht (by decide), ?_, ho, by simp [h.ln], fun i hi => ?_, by rw [← List.append_assoc]; exact hq, ?_, h.lo, h.lw⟩
  · rw [← List.append_assoc, rks_snoc, ← mkm_set]
    exact ((h.mrk.set (rankL q) (.bool true)).alloc _).grown hg ht (by decide)
  · rw [List.length_append] at hi
    simp only [List.length_cons, List.length_nil] at hi
    have hl := h.ln
    by_cases e : i < T.length
    · have e1 : (xs ++ [y]).getD i undef = xs.getD i undef := by simp [List.getD_eq_getElem?_getD, List.getElem?_append_left (show i < xs.length by omega)]
      have e2 : (T ++ [q]).getD i [] = T.getD i [] := by simp [List.getD_eq_getElem?_getD, List.getElem?_append_left e]
      rw [e1, e2]; exact keep (h.rw i e)
    · have e0 : i = T.length := by omega
      have e1 : (xs ++ [y]).getD i undef = y := by rw [e0, ← hl]; simp
      have e2 : (T ++ [q]).getD i [] = q := by rw [e0]; simp
      rw [e1, e2]; exact keep hy
  · have b1 : Below W w (wr.setCell ⟨g, rankL q, none⟩ (.bool true)) := h.be.setCell h.lo _
    have hz := Nat.le_trans h.lw b1.size
    exact (b1.alloc hz (.cells #[tmp] 32)).grown hg (by rw [World.size_alloc]; omega) (fun r e => (h.qu.lt r e).1)
theorem Ow.push_keep {u : Value} {r : List Int} (h : CSt W c g n gs w wr tv D T xs) (hx : Ow W wr u r) (R : Nat) (tmp : Value) (hg : ((wr.setCell ⟨g, R, none⟩ (.bool true)).alloc (.cells #[tmp] 32)).grownBy w' tv.ownBlock) : Ow W w' u r := by
  have q1 := que_set (i := R) (u := .bool true) h.qu h.mrk (by decide)
  have ht : ∀ b, tv.ownBlock = some b → ∃ cur, ((wr.setCell ⟨g, R, none⟩ (.bool true)).alloc (.cells #[tmp] 32)).heap[b]? = some (.cells cur 32 (0, 0)) := (q1.below ((Below.refl _ _).alloc (Nat.le_refl _) (.cells #[tmp] 32))).typ
  exact row_other (t := 32) (World.ownsRow.alloc (row_set hx h.mrk (by decide)) _) hg ht (by decide)
end

set_option maxRecDepth 100000 in
set_option maxHeartbeats 4000000 in
theorem refClose_any (v : Value) (gs : List (List Int)) (w : World) (h : Sps w v gs) (hg : GenP gs) :
    Calls Try.prog 17 #[v] w fun e w' => ∃ x s, e = .returned x ∧ Owp w.heap.size w' x (rl (gs.getD 0 []).length s) ∧ (∀ p, validL p = true → p.length = (gs.getD 0 []).length → ((rankL p : Int) ∈ s ↔ Gen (pks gs) (pk7 p))) ∧ Below w.heap.size w w' := by
  obtain ⟨i1, hq, hq0, hq1, hq2⟩ := info_parts infoPerm3
  obtain ⟨n, hn⟩ : ∃ n, n = (gs.getD 0 []).length := ⟨_, rfl⟩
  have hv0 := (validL_iff _).1 (hg.2.2 0 hg.1).1
  have h1 : 1 ≤ n := by rw [hn]; exact hv0.1
  have h7 : n ≤ 7 := by rw [hn]; exact hv0.2.1
  rw [← hn]
  have HV := Lib.hid (show ∀ p ∈ gs, validL p = true ∧ p.length = n from fun p hp => by rw [hn]; exact hg.mem hp)
  have HS := Lib.hid h
  obtain ⟨a, cap, rfl, h⟩ := h
  obtain ⟨m, hm⟩ : ∃ m, m = gs.length := ⟨_, rfl⟩
  have hm1 : 1 ≤ m := by rw [hm]; exact hg.1
  have hm2 : m ≤ 5040 := by rw [hm]; exact hg.2.1
  rcases h with h | ⟨b, off, rfl, h⟩
  · rw [h] at hm; simp at hm; omega
  obtain ⟨x0, g0, s0⟩ := h 0 (by omega)
  rw [Nat.add_zero] at g0
  obtain ⟨xa, xc, rfl, _⟩ := s0
  have HM := Lib.hid hm
  have HN := Lib.hid hn
  rw [← hn] at g0
  rw [← hm] at HS ⊢
  obtain ⟨F, hF⟩ : ∃ F, F = fact n := ⟨_, rfl⟩
  obtain ⟨f1, f2⟩ := fact_le n h7
  rw [← hF] at f1 f2
  have HF := Lib.hid hF
  clear hg hv0 h hm hn hF
  go_enter Try.func17, Try.ntmps17
  go_wp2_with fail
  refine (SetOf_any n (.slice none 0 0) [] _ h1 h7 ⟨none, 0, rfl, .inl rfl⟩ (fun p hp => by simp at hp) (by simp)).mono ?_
  rintro e w1 ⟨g, rfl, hlo, hmk, hb1⟩
  unfold setV
  rw [← HF.out]
  have M1 := Lib.hid (hmk.alloc (.cells #[.int .i64 n, .slice (some ⟨g, 0, none⟩) F F] 63))
  have C1 := Lib.hid (Blk.new w1 63 #[.int .i64 n, .slice (some ⟨g, 0, none⟩) F F])
  have B1 := Lib.hid (hb1.alloc hb1.size (.cells #[.int .i64 n, .slice (some ⟨g, 0, none⟩) F F] 63))
  have HLo := Lib.hid hlo
  clear hmk hb1 hlo
  go_wp2_with fail
  refine (refid_blk n _ (by omega)).mono ?_
  rintro e w2 ⟨rfl, hI, hb2⟩
  have M2 := M1.out.below hb2
  have C2 := C1.out.below hb2
  have B2 := B1.out.trans (hb2.mono B1.out.size)
  have hlt2 : (w1.alloc (.cells #[.int .i64 n, .slice (some ⟨g, 0, none⟩) F F] 63)).heap.size < w2.heap.size := hI.lt
  have hz2 := B2.size
  obtain ⟨ib, hib⟩ : ∃ ib, ib = (w1.alloc (.cells #[.int .i64 n, .slice (some ⟨g, 0, none⟩) F F] 63)).heap.size := ⟨_, rfl⟩
  obtain ⟨c, hc⟩ : ∃ c, c = w1.heap.size := ⟨_, rfl⟩
  rw [← hib] at hI hlt2 ⊢
  rw [← hc] at C2 ⊢
  have hF0 : 0 < fact n := by rw [← HF.out]; omega
  have k1 : w2.cell? ⟨c, 1, none⟩ = some (.slice (some ⟨g, 0, none⟩) F F) := by rw [C2.cell 1]; rfl
  have k2 : w2.cell? ⟨g, 0, none⟩ = some (.bool (decide (((0 : Nat) : Int) ∈ rks []))) := by rw [M2.cell 0, mkm_get _ _ _ hF0]
  have k3 := M2.free 0
  have hcl : c < w2.heap.size := C2.lt
  have hgl : g < w2.heap.size := M2.lt
  have HI := Lib.hid hI
  have HC2 := Lib.hid C2
  have HM2 := Lib.hid M2
  have HB2 := Lib.hid B2
  have hib0 : w.heap.size ≤ ib := by have := B1.out.size; rw [World.size_alloc] at this; rw [hib, World.size_alloc]; omega
  have HIB := Lib.hid hib0
  clear hI C2 M2 B2 hib hc hb2 M1 C1 B1 hib0
  go_wp2_with fail
  have hW3 : CSt w.heap.size c g n gs w ((w2.setCell ⟨g, 0, none⟩ (.bool true)).alloc (.cells #[.slice (some ⟨ib, 0, none⟩) n n] 32)) (.slice (some ⟨w2.heap.size, 0, none⟩) 1 1) [] [idL n] [.slice (some ⟨ib, 0, none⟩) n n] := by
    have e0 : rks ([] ++ [idL n]) = rks [] ++ [((0 : Nat) : Int)] := by simp [rks, rank_id n h7]
    have st := HC2.out
    rw [HF.out] at st
    refine ⟨(st.other g 0 (.bool true) (HC2.out.ne HM2.out (by decide))).alloc _, ?_, ?_, rfl, fun i hi => ?_, Bq.start h1 h7, ?_, HLo.out, Nat.le_refl _⟩
    · rw [e0, ← mkm_set]; exact (HM2.out.set 0 (.bool true)).alloc _
    · have := Blk.new (w2.setCell ⟨g, 0, none⟩ (.bool true)) 32 #[.slice (some ⟨ib, 0, none⟩) n n]
      rw [show (w2.setCell ⟨g, 0, none⟩ (.bool true)).heap.size = w2.heap.size by simp] at this
      exact .inr ⟨w2.heap.size, 0, 1, _, rfl, hz2, this, Nat.le_refl _, by unfold maxLen; omega, by simp, by simp⟩
    · have e : i = 0 := by simpa using hi
      subst e
      exact Ow.of_blk ((HI.out.other g 0 (.bool true) (HI.out.ne HM2.out (by decide))).alloc _) HIB.out (by rw [length_idL]; omega) n (length_idL n).symm
    · exact (HB2.out.setCell HLo.out _).alloc (by rw [show (w2.setCell ⟨g, 0, none⟩ (.bool true)).heap.size = w2.heap.size by simp]; exact hz2) _
  have W3 := Lib.hid hW3
  clear hW3 HI HC2 HM2 HB2 HIB k1 k2 k3 hcl hgl hlt2
  generalize (w2.setCell ⟨g, 0, none⟩ (.bool true)).alloc (.cells #[.slice (some ⟨ib, 0, none⟩) n n] 32) = w3 at *
  go_loopg [5] F (fun K tv wr => ∃ D T xs, Hid (CSt w.heap.size c g n gs w wr tv D T xs) ∧ Hid (ClsBy gs D (D ++ T)) ∧ Hid (K = F - D.length))
  case atStart => exact ⟨[], [idL n], _, W3, Lib.hid (fun x hx => by simp at hx), Lib.hid (by simp)⟩
  case round =>
    clear W3 hz2
    obtain ⟨D, T, xs, HC, HCl, HK⟩ := hrel
    rcases T with _ | ⟨p, T⟩
    · obtain ⟨qa, qc, rfl⟩ := HC.out.qu.slice
      have hx0 : xs.length = 0 := by have := HC.out.ln; simpa using this
      have hst := HC.out.st
      rw [← HF.out] at hst
      have k1 : wr.cell? ⟨c, 0, none⟩ = some (.int .i64 n) := by rw [hst.cell 0]; rfl
      have k2 : wr.cell? ⟨c, 1, none⟩ = some (.slice (some ⟨g, 0, none⟩) F F) := by rw [hst.cell 1]; rfl
      rw [hx0]
      clear hx0 hst
      have HCall := Lib.hid (show Calls Try.prog 55 #[.agg #[.int .i64 n, .slice (some ⟨g, 0, none⟩) F F]] wr fun e w' => ∃ x, e = .returned x ∧ Owp wr.heap.size w' x (rl n (rks D)) ∧ Below wr.heap.size wr w' from by
        have hm := HC.out.mrk
        rw [List.append_nil] at hm
        have := List_any n g (rks D) wr h1 h7 hm
        unfold setV at this
        rwa [← HF.out] at this)
      go_wp2_with fail
      refine HCall.out.mono ?_
      rintro e w4 ⟨x, rfl, ho, hb4⟩
      have HO := Lib.hid (ho.mono HC.out.be.size)
      have HB := Lib.hid (HC.out.be.trans (hb4.mono HC.out.be.size))
      clear ho hb4
      go_wp2_with fail
      go_ret
      refine ⟨x, rks D, rfl, HO.out, fun p hv hl => ?_, HB.out⟩
      have hbq := HC.out.bq
      have hcl := HCl.out
      rw [List.append_nil] at hbq hcl
      exact hbq.done h7 hcl HV.out hv hl
    · obtain ⟨q, k, cq, rfl, hcq⟩ := HC.out.qu.form (by rw [HC.out.ln]; simp)
      rcases xs with _ | ⟨x, xs⟩
      · have := HC.out.ln; simp at this
      have hk0 := HC.out.qu.cell (i := 0) (by simp)
      simp only [Nat.add_zero, List.getD_cons_zero] at hk0
      have hx0 := HC.out.rw 0 (by simp)
      simp only [List.getD_cons_zero] at hx0
      simp only [List.length_cons] at hcq HC ⊢
      obtain ⟨N, hN⟩ : ∃ N, N = xs.length := ⟨_, rfl⟩
      rw [← hN] at hcq HC ⊢
      have hpop := HC.out.pop
      obtain ⟨A, hA⟩ : ∃ A, (if cq = 1 then some (⟨q, k, none⟩ : Addr) else some ⟨q, k + 1, none⟩) = A := ⟨_, rfl⟩
      rw [hA] at hpop
      have HP := Lib.hid hpop
      have HX := Lib.hid hx0
      have hD : D.length < F := by
        have := HC.out.bq.le
        rw [List.length_append, ← HF.out] at this
        simp at this; omega
      have HD := Lib.hid hD
      have HCl2 : Hid (ClsBy gs D (D ++ [p] ++ T)) := Lib.hid (by have := HCl.out; rw [List.append_assoc]; exact this)
      have hNb : N ≤ 1000000 := by
        have h3 := HC.out.bq.le
        have h4 := HC.out.ln
        rw [List.length_append, ← HF.out] at h3
        simp at h3 h4; omega
      obtain ⟨pa, pc, rfl, _⟩ := hx0.sl
      clear hpop hx0 hN HC HCl hD
      go_wp2_with fail
      obtain ⟨L, hL⟩ : ∃ L, L = p.length := ⟨_, rfl⟩
      have hpn : L = n := by
        have := (HP.out.bq.val p (by simp)).2.1
        omega
      have HPl := Lib.hid (show p.length = n by omega)
      have HPv := Lib.hid (HP.out.bq.val p (by simp)).1
      rw [← hL, hpn] at HX ⊢
      clear hk0 hcq hA hL hpn
      generalize (Value.slice A N (cq - 1)) = tv0 at *
      obtain ⟨wo, rfl⟩ : ∃ wo, wo = wr := ⟨wr, rfl⟩
      go_loopw [5, 7] (fun tv iv wi => ∃ (k : Nat) (T : List (List Int)) (xs : List Value), iv = .int .i64 k ∧ k ≤ m ∧ Hid (CSt w.heap.size c g n gs w wi tv (D ++ [p]) T xs) ∧ Hid (Ow w.heap.size wi (.slice pa n pc) p) ∧ Hid (ClsBy gs D (D ++ [p] ++ T)) ∧ Hid (∀ j, j < k → mulL p (gs.getD j []) ∈ D ++ [p] ++ T)) (fun _ iv _ => m - (intOf iv).toNat)
      case atStart => exact ⟨0, T, xs, rfl, Nat.zero_le _, HP, HX, HCl2, Lib.hid (fun j hj => by omega)⟩
      case round =>
        clear HP HX HCl2
        obtain ⟨k, T, xs, rfl, hk, HP, HX, HCl, HPt⟩ := hrel
        by_cases hlt : k < m
        · obtain ⟨a', cap', e1, hs⟩ := HS.out
          injection e1 with e1 e2 e3
          subst e1 e3
          clear e2
          rcases hs with hs | ⟨b', off', e1, hs⟩
          · have := HM.out; rw [hs] at this; simp at this; omega
          injection e1 with e1
          injection e1 with e1 e2 e3
          subst e1 e2
          clear e3
          obtain ⟨y, y0, sy⟩ := hs k (by rw [← HM.out]; exact hlt)
          have y1 : wr.cell? ⟨b, off + k, none⟩ = some y := (HP.out.be.cell (p := ⟨b, off + k, none⟩) (World.block_lt_of_cell? w _ y0)).trans y0
          have sy1 := sy.below HP.out.be
          obtain ⟨r, hr⟩ : ∃ r, r = gs.getD k [] := ⟨_, rfl⟩
          rw [← hr] at sy1
          have hrm : r ∈ gs := by rw [hr]; have := HM.out; simp [show k < gs.length by omega]
          obtain ⟨rv, rl'⟩ := HV.out r hrm
          have HRm := Lib.hid hrm
          have HR := Lib.hid hr
          have HRv := Lib.hid rv
          have HRl := Lib.hid rl'
          have HCall := Lib.hid (show Calls Try.prog 40 #[.slice pa n pc, y] wr fun e w' => ∃ v, e = .returned v ∧ Ow wr.heap.size w' v (mulL p r) ∧ Below wr.heap.size wr w' from
            refmul_any _ _ p r wr HX.out.sl sy1 (by have := HPl.out; omega) (by omega) (by rw [rl', ← HPl.out]; exact inR_of_valid HPv.out))
          obtain ⟨ya, yc, rfl, _⟩ := sy1
          clear hs y0 sy hr hrm rv rl'
          go_wp2_with fail
          refine HCall.out.mono ?_
          rintro e w4 ⟨v, rfl, hv, hb4⟩
          have ha := mulL_valid HPv.out HRv.out (HPl.out.trans HRl.out.symm)
          have hal : (mulL p r).length = n := (length_mulL p r).trans HPl.out
          have HPs := Lib.hid (HP.out.below hb4)
          have HXs := Lib.hid (HX.out.below hb4)
          have HVs := Lib.hid (hv.mono (Nat.le_trans (Nat.le_refl _) HP.out.be.size))
          clear HP HX hb4
          have HRk := Lib.hid (refrank_any v (mulL p r) w4 HVs.out.sl (by omega))
          obtain ⟨va, vc, e, _⟩ := HVs.out.sl
          rw [hal] at e
          subst e
          have HA := Lib.hid ha
          have HAl := Lib.hid hal
          clear hv ha hal
          go_wp2_with fail
          refine HRk.out.mono ?_
          rintro e w5 ⟨rfl, j, rfl⟩
          have hb5 : Below w4.heap.size w4 (w4.drewN j) := below_drewN' (Below.refl _ _) j
          have HPs := Lib.hid (HPs.out.below hb5)
          have HXs := Lib.hid (HXs.out.below hb5)
          have HVs := Lib.hid (HVs.out.below hb5)
          clear hb5 HRk HCall y1
          generalize w4.drewN j = w5 at *
          obtain ⟨z, hz⟩ : ∃ z, z = mulL p r := ⟨_, rfl⟩
          have ha := HA.out
          have hal := HAl.out
          clear HA HAl
          rw [← hz] at ha hal HVs ⊢
          have hR := (unrL_rank ha).2
          rw [hal, ← HF.out] at hR
          obtain ⟨R, hR0⟩ : ∃ R, R = rankL z := ⟨_, rfl⟩
          rw [← hR0] at hR ⊢
          have hin := rks_mem HPs.out.bq.valid ha hal
          rw [← hR0] at hin
          have hst := HPs.out.st
          have hmk := HPs.out.mrk
          rw [← HF.out] at hst hmk
          have k1 : w5.cell? ⟨c, 1, none⟩ = some (.slice (some ⟨g, 0, none⟩) F F) := by rw [hst.cell 1]; rfl
          have k2 : w5.cell? ⟨g, R, none⟩ = some (.bool (decide ((R : Int) ∈ rks (D ++ [p] ++ T)))) := by rw [hmk.cell R, mkm_get _ _ _ hR]
          have k3 := hmk.free R
          have HZ := Lib.hid hz
          have HR0 := Lib.hid hR0
          have HA := Lib.hid ha
          have HAl := Lib.hid hal
          by_cases hm : z ∈ D ++ [p] ++ T
          · rw [decide_eq_true (hin.2 hm)] at k2
            have HIn := Lib.hid hm
            have HPt2 := Lib.hid (show ∀ j, j < k + 1 → mulL p (gs.getD j []) ∈ D ++ [p] ++ T from fun j hj => by
              by_cases e : j = k
              · subst e; rw [← HR.out, ← HZ.out]; exact hm
              · exact HPt.out j (by omega))
            clear hm hin hst hmk hz hR0 ha hal HPt
            go_wp2_with fail
            go_roundw
            case rel => exact ⟨k + 1, T, xs, by go_num, by omega, HPs, HXs, HCl, HPt2⟩
            case measure => simp [intOf]; omega
          · rw [decide_eq_false (fun h => hm (hin.1 h))] at k2
            have HB2 : Hid (Bq n gs (D ++ [p] ++ T ++ [z])) := Lib.hid (by
              rw [HZ.out]
              exact HPs.out.bq.push HRm.out ⟨HRv.out, HRl.out⟩ (by simp) (by rw [← HZ.out]; exact hm))
            have HPt2 := Lib.hid (show ∀ j, j < k + 1 → mulL p (gs.getD j []) ∈ D ++ [p] ++ (T ++ [z]) from fun j hj => by
              rw [← List.append_assoc]
              by_cases e : j = k
              · subst e; rw [← HR.out, ← HZ.out]; simp
              · exact List.mem_append.2 (.inl (HPt.out j (by omega))))
            have HCl2 : Hid (ClsBy gs D (D ++ [p] ++ (T ++ [z]))) := Lib.hid (by rw [← List.append_assoc]; exact HCl.out.more)
            have hxl : xs.length + 1 ≤ 1000000 := by
              have h3 := HB2.out.le
              have h4 := HPs.out.ln
              rw [← HF.out] at h3
              simp at h3; omega
            have hsz : (w5.setCell ⟨g, R, none⟩ (.bool true)).heap.size = w5.heap.size := by simp
            have hQ := que_set (i := R) (u := .bool true) HPs.out.qu HPs.out.mrk (by decide)
            have hQ := hQ.below ((Below.refl _ _).alloc (Nat.le_refl _) (.cells #[.slice va n vc] 32))
            have hc5 : ((w5.setCell ⟨g, R, none⟩ (.bool true)).alloc (.cells #[.slice va n vc] 32)).cell? ((⟨w5.heap.size, 0, none⟩ : Addr).add 0) = some (.slice va n vc) := by rw [← hsz]; exact cell_one_new _ _ _ 0 _ rfl
            have hb5 := HPs.out.be.size
            have HQ := Lib.hid hQ
            have HC5 := Lib.hid hc5
            have HSz := Lib.hid hsz
            clear hm hin hst hmk hz hR0 ha hal HPt HCl hQ hc5 hsz
            go_wp2_with (at_builtin; go_loud (refine wpList_append_que rfl _ _ 22 rfl w.heap.size 32 i1 (.slice none 0 0) Try.underlying22 hq hq0 hq1 (by rw [hq2]; omega) rfl u5 xs rfl HQ.out ⟨w5.heap.size, 0, none⟩ 1 (.slice va n vc) rfl HC5.out rfl hxl (by rw [World.size_alloc, HSz.out]; omega) ?_; intro v' w6 hq6 hgrow _))
            have HPf : Hid (CSt w.heap.size c g n gs w w6 v' (D ++ [p]) (T ++ [z]) (xs ++ [.slice va n vc])) := Lib.hid (by
              rw [HR0.out] at hgrow
              exact HPs.out.push HVs.out HB2.out _ hq6 hgrow)
            have HXf := Lib.hid (Ow.push_keep HPs.out HXs.out R _ hgrow)
            clear hq6 hgrow HPs HXs HVs HB2 HQ HC5 HSz
            go_wp2
            go_roundw
            case rel => exact ⟨k + 1, T ++ [z], _, by go_num, by omega, HPf, HXf, HCl2, HPt2⟩
            case measure => simp [intOf]; omega
        · have hke : k = m := by omega
          have HClf : Hid (ClsBy gs (D ++ [p]) (D ++ [p] ++ T)) := Lib.hid (fun x hx r hr => by
            rcases List.mem_append.1 hx with hx | hx
            · exact HCl.out x hx r hr
            · rw [List.mem_singleton.1 hx]
              obtain ⟨j, hj, rfl⟩ := List.getElem_of_mem hr
              have := HPt.out j (by rw [hke, HM.out]; exact hj)
              rwa [show gs.getD j [] = gs[j] by simp [hj]] at this)
          clear hke
          go_wp2_with fail
          go_roundg (F - (D ++ [p]).length)
          case measure => rw [HK.out, List.length_append]; have := HD.out; simp; omega
          case rel => exact ⟨D ++ [p], T, xs, HP, HClf, Lib.hid rfl⟩
end Go.Proofs.Ytjnjhfificpbbaa
