/- The reference's Factorial and Unrank, by their meaning. -/
import Derived.Test.YtjnjhfificpbbaaProg
import Derived.Test.YtjnjhfificpbbaaBase
import Derived.Test.YtjnjhfificpbbaaLists
import Derived.Test.YtjnjhfificpbbaaMul
import Derived.Test.YtjnjhfificpbbaaNums
import Derived.Test.YtjnjhfificpbbaaUnr
import Derived.Test.YtjnjhfificpbbaaRef
import Derived.Deep.RegionLaw
import Derived.Maps.AppendAt
import Derived.Deep.AppendLies
namespace Go.Proofs.Ytjnjhfificpbbaa
open Go.RowKit

theorem reffact_any (k : Nat) : ∀ (n : Nat) (w : World), n ≤ k → n ≤ 7 →
    Calls Try.prog 78 #[.int .i64 n] w fun e w' => e = .returned (.int .i64 (fact n)) ∧ w = w' := by
  induction k with
  | zero =>
    intro n w hk h7
    obtain rfl : n = 0 := by omega
    go_enter Try.func78, Try.ntmps78
    go_wp2_with fail
    go_ret
    exact ⟨rfl, rfl⟩
  | succ k ih =>
    intro n w hk h7
    have IH := Lib.hid ih
    clear ih
    by_cases h2 : n < 2
    · have hf : fact n = 1 := by rcases n with _ | _ | n <;> first | rfl | omega
      have HF := Lib.hid hf
      clear hf
      go_enter Try.func78, Try.ntmps78
      go_wp2_with fail
      go_ret
      exact ⟨ret_int (by rw [HF.out]; rfl), rfl⟩
    · obtain ⟨m, rfl⟩ : ∃ m, n = m + 1 := ⟨n - 1, by omega⟩
      have b1 := fact_le m (by omega)
      have b2 := fact_le (m + 1) h7
      obtain ⟨F, hF⟩ : ∃ F, F = fact m := ⟨_, rfl⟩
      have e : ((m : Int) + 1) * (F : Int) = (fact (m + 1) : Int) := by rw [hF, fact, Int.natCast_mul]; rfl
      rw [← hF] at b1
      have HE := Lib.hid e
      have b3 : 0 ≤ ((m : Int) + 1) * (F : Int) := by rw [e]; omega
      have b4 : ((m : Int) + 1) * (F : Int) ≤ 5040 := by rw [e]; omega
      have HF := Lib.hid hF
      clear e hF
      go_enter Try.func78, Try.ntmps78
      go_wp2_with (go_at_call 78; refine (IH.out m _ (by omega) (by omega)).mono ?_; rintro e w' ⟨rfl, rfl⟩; rw [← HF.out])
      go_ret
      exact ⟨ret_int HE.out, rfl⟩

/-- append(v, x...), v the call's own or nil, x any slice of integers that is read: as one step of a region that draws. -/
theorem step_append_sl {ops : Array Oper} {o : Oper} {a : Act} {w : World} {K : Act → World → Prop} {Q : Exit → Act → World → Prop} {E : Prop}
    (hg : o.guard = none) (s x : Operand) (hop : o.op = Op.call { callee := Callee.builtin Builtin.append, args := #[s, x], argTypes := #[32, 32] })
    (B : Nat) (v : Value) (L : List Int) (hs : a.eval s = v) (hO : Ow B w v L) (ad : Addr) (m c : Nat) (M : List Int) (hx : a.eval x = .slice (some ad) m c) (hM : M.length = m) (hc : ∀ j, j < m → w.cell? (ad.add j) = some (.int .i64 (M.getD j 0)))
    (hl : L.length + m ≤ 1000000) (hB : B ≤ w.heap.size)
    (hK : ∀ v' w', Ow B w' v' (L ++ M) → w.grownBy w' v.ownBlock → K (a.put o.dst v') w') :
    if Region.wanted o (yielded ops a.tmps) = true then Oper.wp Try.prog o a w K Q else E := by
  obtain ⟨i0, hi, hz0, hz1, hz2⟩ := info_parts infoInt
  have hw : Region.wanted o (yielded ops a.tmps) = true := by simp [Region.wanted, hg]
  rw [if_pos hw]
  obtain ⟨v', w', hrun, r1, r2, _⟩ := run_append_own (P := Try.prog) w B 32 o.type 3 i0 (.int .i64 0) 1 8 Try.underlying32 hi hz0 hz1 hz2 rfl (by decide) v L.length (L.map (Value.int .i64)) hO ad m c (M.map (Value.int .i64)) (by simp [hM])
    (fun j u hu => by
      rw [List.getElem?_map] at hu
      cases hj : M[j]? with
      | none => rw [hj] at hu; cases hu
      | some y =>
        rw [hj] at hu
        have hlt : j < M.length := (List.getElem?_eq_some_iff.1 hj).1
        have := hc j (by omega)
        rw [this, ← hu]
        simp [hj])
    (fun u hu => by obtain ⟨y, _, rfl⟩ := List.mem_map.1 hu; rfl) (by unfold maxLen; omega) (by omega) hB
  unfold Oper.wp
  simp [execOp, hop, resolve, invoke, builtin, hs, hx, hrun, Result.andThen]
  exact hK v' w' (by unfold Ow; simpa [hM] using r1) r2

theorem after_first {w2 w3 : World} {g n : Nat} {A : Addr} {f : Nat → Value} (hg : g < w2.heap.size) (hA : ∃ o, A = ⟨g, o, none⟩) (hs : ∀ t, t < n → w2.cell? (A.add t) = some (f t))
    (hgr : (w2.alloc (.cells #[] 3)).drew.grownBy w3 (Value.ownBlock (.slice (some ⟨w2.heap.size, 0, none⟩) 0 0))) : (∀ t, t < n → w3.cell? (A.add t) = some (f t)) ∧ w2.heap.size ≤ w3.heap.size := by
  have hz := hgr.size
  simp at hz
  refine ⟨fun t ht => ?_, by omega⟩
  have h1 : w3.heap[g]? = w2.heap[g]? := (hgr.block g (by simp; omega) (by simp [Value.ownBlock]; omega)).trans (Below.heap_alloc w2 _ g hg)
  have h2 := hs t ht
  obtain ⟨o, rfl⟩ := hA
  rw [Addr.add_lit] at h2 ⊢
  exact (World.cell?_of_block (w := w2) h1).trans h2

set_option maxHeartbeats 1000000 in
theorem refunr_any (n r0 : Nat) (w : World) (h1 : 1 ≤ n) (h7 : n ≤ 7) (hr : r0 < fact n) :
    Calls Try.prog 79 #[.int .i64 n, .int .i64 r0] w fun e w' => ∃ v, e = .returned v ∧ Ow w.heap.size w' v (unrL n r0) ∧ Below w.heap.size w w' := by
  obtain ⟨i0, hi, hz0, hz1, hz2⟩ := info_parts infoInt
  have HR0 := Lib.hid hr
  clear hr
  go_enter Try.func79, Try.ntmps79
  go_wp2_with fail
  refine (refid_blk n _ (by omega)).mono ?_
  rintro e w1 ⟨rfl, hB, hb⟩
  have hO0 : Ow w.heap.size w1 (.slice (some ⟨w.heap.size, 0, none⟩) n n) (idL n) := Ow.of_blk hB (Nat.le_refl _) (by rw [length_idL]; omega) n (length_idL n).symm
  have HO0 := Lib.hid hO0
  clear hB hO0
  go_wp2
  go_loopw [1, 5, 6, 7] (fun rv sv v iv wr => ∃ (k r : Nat) (P R : List Int), k ≤ n ∧ rv = .int .i64 r ∧ iv = .int .i64 k ∧ Hid (R.length + k = n ∧ P.length = k) ∧ Hid (Ow w.heap.size wr sv R) ∧ Hid (Ow w.heap.size wr v P) ∧ Hid (v.ownBlock = none ∨ v.ownBlock ≠ sv.ownBlock) ∧ Hid (r < fact (n - k)) ∧ Hid (P ++ unr (n - k) R r = unrL n r0) ∧ Below w.heap.size w wr) (fun _ _ _ iv _ => n - (intOf iv).toNat)
  case atStart => exact ⟨0, r0, [], idL n, Nat.zero_le _, rfl, rfl, Lib.hid ⟨by rw [length_idL]; rfl, rfl⟩, HO0, Lib.hid (Ow.nil _ _), Lib.hid (.inl rfl), HR0, Lib.hid rfl, hb⟩
  case round =>
    clear HO0 hb
    obtain ⟨k, r, P, R, hk, rfl, rfl, hl, hS, hO, hne, hr, hU, hb⟩ := hrel
    by_cases hlt : k < n
    · obtain ⟨j, hj⟩ : ∃ j, n - k = j + 1 := ⟨n - k - 1, by omega⟩
      have hrf := hr.out
      rw [hj, fact] at hrf
      have hj7 : j ≤ 7 := by omega
      obtain ⟨f1, f2⟩ := fact_le j hj7
      obtain ⟨f, hf⟩ : ∃ f, f = fact j := ⟨_, rfl⟩
      rw [← hf] at f1 f2 hrf
      have HF := Lib.hid hf
      have hd : r / f < j + 1 := (Nat.div_lt_iff_lt_mul f1).2 hrf
      have he : r % f < f := Nat.mod_lt _ f1
      obtain ⟨d, hd0⟩ : ∃ d, d = r / f := ⟨_, rfl⟩
      obtain ⟨e, he0⟩ : ∃ e, e = r % f := ⟨_, rfl⟩
      have q1 : (r : Int) / (f : Int) = (d : Int) := by rw [hd0]; exact (Int.natCast_ediv r f).symm
      have q2 : (r : Int) % (f : Int) = (e : Int) := by rw [he0]; exact (Int.natCast_emod r f).symm
      rw [← hd0] at hd
      rw [← he0] at he
      have HD := Lib.hid hd0
      have HE := Lib.hid he0
      have hrlt : r < 1000000 := by
        have : (j + 1) * f ≤ 8 * 5040 := Nat.mul_le_mul (by omega) f2
        omega
      have hfj : ((n : Int) - 1 - (k : Int)) = (j : Int) := by omega
      obtain ⟨g, cap, hsv, hgb, hgl⟩ := World.ownsRow.form hS.out (by have := hl.out.1; omega)
      have hrl : R.length = j + 1 := by have := hl.out.1; omega
      rw [hrl] at hsv
      subst hsv
      have hsr : wr.ownsRow w.heap.size 3 1 (.slice (some ⟨g, 0, none⟩) (j + 1) cap) (j + 1) (R.map (Value.int .i64)) := by
        have := hS.out
        unfold Ow at this
        rwa [hrl] at this
      obtain ⟨x, hx0⟩ : ∃ x, x = R.getD d 0 := ⟨_, rfl⟩
      have hcell : ∀ i, i < j + 1 → wr.cell? ⟨g, i, none⟩ = some (.int .i64 (R.getD i 0)) := fun i hi => by
        rw [World.ownsRow.cellAt hsr i (by omega)]; simp [show i < R.length by omega]
      have g1 : wr.cell? ⟨g, d, none⟩ = some (.int .i64 x) := by rw [hx0]; exact hcell d (by omega)
      have HX := Lib.hid hx0
      have HCell := Lib.hid hcell
      have HJ := Lib.hid hj
      have HRL := Lib.hid hrl
      have HSR := Lib.hid hsr
      clear hsr
      clear hx0 hcell hj hf hd0 he0 hrf hrl
      have hO' := hO.out
      unfold Ow at hO'
      have HLP : P.length ≤ 7 := by have := hl.out.2; omega
      go_wp2_with (first | (go_at_call 78; refine (reffact_any 7 j _ hj7 hj7).mono ?_; rintro e w' ⟨rfl, rfl⟩; rw [← HF.out]) | (at_builtin; refine wpList_append_own _ rfl _ _ 32 rfl w.heap.size 3 i0 (.int .i64 0) 1 8 Try.underlying32 hi hz0 hz1 hz2 rfl (by decide) _ _ _ rfl (hO'.alloc _) ⟨wr.heap.size, 0, none⟩ 1 1 [.int .i64 x] rfl rfl (cell_one_new _ _ _) (by simp [Value.oneCell']) (by unfold maxLen; omega) (by omega) (by have := hb.size; simp; omega) ?_; intro v' w2 hown' hgrow _))
      have hrow : ∀ b, u6.ownBlock = some b → b < wr.heap.size ∧ b ≠ g := fun b h => ⟨(hO'.lt b h).2, fun e => by
        rcases hne.out with h2 | h2
        · rw [h2] at h; cases h
        · rw [h, e] at h2; exact h2 rfl⟩
      have hgw : w2.heap[g]? = wr.heap[g]? := (hgrow.block g (by simp; omega) (fun h => (hrow g h.symm).2 rfl)).trans (Below.heap_alloc _ _ _ hgl)
      have HO2 : Hid (Ow w.heap.size w2 v' (P ++ [x])) := Lib.hid (Ow.push hown')
      have hb2 : Below w.heap.size w w2 := (hb.alloc hb.size _).grown hgrow (by have := hb.size; simp; omega) (fun b h => (hO'.lt b h).1)
      have HCell2 : Hid (∀ i, i < j + 1 → w2.cell? ⟨g, i, none⟩ = some (.int .i64 (R.getD i 0))) := Lib.hid (fun i hi => (World.cell?_of_block (w := wr) hgw).trans (HCell.out i hi))
      have hcap : j + 1 ≤ cap := by
        obtain ⟨s1, s2⟩ := HSR.out
        rcases s2 with ⟨s2, _⟩ | ⟨g', cap', cur, e, s3, s4, s5, _⟩
        · cases s2
        · cases e; exact s5
      have hdc : d ≤ cap := by omega
      have hwr : IntKind.i64.wrap ((d : Int) + 1) = (d : Int) + 1 := by rw [IntKind.wrap_i64]; omega
      have hp0 : (0 : Int) ≤ (d : Int) + 1 := by omega
      have hp1 : (d : Int) + 1 ≤ (((j + 1 : Nat)) : Int) := by omega
      have hp2 : ((d : Int) + 1).toNat = d + 1 := by omega
      obtain ⟨A, hA, hAb, hsrc⟩ : ∃ A : Addr, (if cap = d + 1 then some (⟨g, 0, none⟩ : Addr) else some ⟨g, d + 1, none⟩) = some A ∧ Hid (∃ o, A = ⟨g, o, none⟩) ∧ Hid (∀ t, t < j - d → w2.cell? (A.add t) = some (.int .i64 ((R.drop (d + 1)).getD t 0))) := by
        by_cases h : cap = d + 1
        · exact ⟨⟨g, 0, none⟩, by simp [h], Lib.hid ⟨_, rfl⟩, fun t ht => by omega⟩
        · refine ⟨⟨g, d + 1, none⟩, by simp [h], Lib.hid ⟨_, rfl⟩, fun t ht => ?_⟩
          rw [Addr.add_lit]
          refine (HCell2.out (d + 1 + t) (by omega)).trans ?_
          simp
      have hg2 : g < w2.heap.size := by have := hgrow.size; simp at this; omega
      clear hown' hgrow hrow hgw hO' g1 hd he
      have HE0 : Hid (Ow w2.heap.size (w2.alloc (.cells #[] 3)).drew (.slice (some ⟨w2.heap.size, 0, none⟩) 0 0) []) := Lib.hid (Ow.of_blk (Blk.new w2 3 #[]) (Nat.le_refl _) (by simp) 0 rfl)
      have s3 : Hid (∀ t, t < d → (w2.alloc (.cells #[] 3)).drew.cell? ((⟨g, 0, none⟩ : Addr).add t) = some (.int .i64 ((R.take d).getD t 0))) := Lib.hid (fun t ht => by
        rw [Addr.add_lit, Nat.zero_add]
        refine ((Below.refl w2.heap.size w2).alloc (Nat.le_refl _) (.cells #[] 3)).cell (p := ⟨g, t, none⟩) hg2 |>.trans ?_
        rw [HCell2.out t (by omega)]
        simp [ht])
      have l1 : Hid ((R.take d).length = d) := Lib.hid (by rw [List.length_take, HRL.out]; omega)
      have l2 : Hid ((R.drop (d + 1)).length = j - d) := Lib.hid (by rw [List.length_drop, HRL.out]; omega)
      have hdj : j + 1 - (d + 1) = j - d := by omega
      have hdj3 : d ≤ j := by omega
      have hLR : (R.take d).length + (j - d) ≤ 1000000 := by rw [l1.out]; omega
      go_region_law (first | (refine step_append_sl rfl (.tmp 35) (.tmp 38) rfl w2.heap.size (.slice (some ⟨w2.heap.size, 0, none⟩) 0 0) [] (by simp [Act.eval]) HE0.out ⟨g, 0, none⟩ d cap (R.take d) (by simp [Act.eval]) l1.out s3.out (by simp; omega) (by simp) ?_; intro v3 w3 hO3 hg3; have HO3 : Hid (Ow w2.heap.size w3 v3 (R.take d)) := Lib.hid hO3; have HG3 := Lib.hid hg3; have H3 := Lib.hid (after_first hg2 hAb.out hsrc.out hg3); clear hO3 hg3) | (refine step_append_sl rfl (.tmp 39) (.tmp 43) rfl w2.heap.size v3 (R.take d) (by simp [Act.eval]) HO3.out A (j - d) (cap - (d + 1)) (R.drop (d + 1)) (by simp [Act.eval]) l2.out H3.out.1 hLR H3.out.2 ?_; intro v4 w4 hO4 hg4; have HO4 := Lib.hid hO4; have HG4 := Lib.hid hg4; clear hO4 hg4))
      have hg3s : w2.heap.size + 1 ≤ w3.heap.size := by have := HG3.out.size; simpa using this
      have hlt3 : ∀ b, v3.ownBlock = some b → w2.heap.size ≤ b := fun b h => (HO3.out.lt b h).1
      have hb3 : Below w2.heap.size w2 w3 := Below.grown (w := (w2.alloc (.cells #[] 3)).drew) (((Below.refl _ w2).alloc (Nat.le_refl _) (.cells #[] 3)).drew) HG3.out (by simp) (fun r h => by simp [Value.ownBlock] at h; omega)
      have hb4 : Below w2.heap.size w2 w4 := hb3.grown HG4.out (by omega) hlt3
      have HB4 := Lib.hid hb4
      have HO5 : Hid (Ow w2.heap.size w4 v4 (R.eraseIdx d)) := Lib.hid (by
        have := HO4.out
        rw [List.eraseIdx_eq_take_drop_succ]
        simpa using this)
      have HO6 := Lib.hid (HO2.out.below hb4)
      have HNE : Hid (v'.ownBlock = none ∨ v'.ownBlock ≠ v4.ownBlock) := Lib.hid (by
        cases hvb : v'.ownBlock with
        | none => exact .inl rfl
        | some b =>
          refine .inr (fun h => ?_)
          have h1 := (HO2.out.lt b hvb).2
          have h2 := (HO5.out.lt b h.symm).1
          omega)
      clear hb3 hb4 hlt3 hg3s
      go_wp2
      go_roundw
      case rel =>
        refine ⟨k + 1, e, P ++ [x], R.eraseIdx d, by omega, rfl, by go_num, Lib.hid ?_, Lib.hid (HO5.out.mono hb2.size), HO6, HNE, Lib.hid ?_, Lib.hid ?_, hb2.trans (HB4.out.mono hb2.size)⟩
        · have := hl.out
          have h2 := HRL.out
          refine ⟨?_, ?_⟩
          · rw [List.length_eraseIdx, if_pos (by omega)]; omega
          · simp; omega
        · have h2 := HJ.out
          rw [show n - (k + 1) = j from by omega, ← HF.out, HE.out]
          exact Nat.mod_lt _ (by omega)
        · have hu := hU.out
          rw [HJ.out, unr, ← HF.out, ← HD.out, ← HE.out, ← HX.out] at hu
          rw [show n - (k + 1) = j from by have := HJ.out; omega]
          simpa using hu
      case measure => simp [intOf]; omega
    · have hlt' : n ≤ k := by omega
      have hO2 : Ow w.heap.size wr u6 (unrL n r0) := by
        have := hU.out
        rw [show n - k = 0 from by omega] at this
        simp only [unr, List.append_nil] at this
        rw [← this]
        exact hO.out
      have HO2 := Lib.hid hO2
      clear hO2
      go_wp2
      go_ret
      exact ⟨_, rfl, HO2.out, hb⟩
end Go.Proofs.Ytjnjhfificpbbaa
