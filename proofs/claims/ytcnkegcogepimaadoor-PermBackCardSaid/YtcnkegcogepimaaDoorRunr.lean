/- The reference's Factorial and Unrank, by their meaning. -/
import Derived.Test.YtcnkegcogepimaaDoorProg
import Derived.Test.YtcnkegcogepimaaDoorBase
import Derived.Test.YtcnkegcogepimaaDoorLists
import Derived.Test.YtcnkegcogepimaaDoorMul
import Derived.Test.YtcnkegcogepimaaDoorNums
import Derived.Test.YtcnkegcogepimaaDoorUnr
import Derived.Test.YtcnkegcogepimaaDoorRef
import Derived.Deep.RegionLaw
import Derived.Maps.AppendAt
import Derived.Deep.AppendLies
namespace Go.Proofs.YtcnkegcogepimaaDoor
open Go.RowKit

theorem reffact_any (k : Nat) : ∀ (n : Nat) (w : World), n ≤ k → n ≤ 7 →
    Calls Tryd.prog 22 #[.int .i64 n] w fun e w' => e = .returned (.int .i64 (fact n)) ∧ w = w' := by
  induction k with
  | zero =>
    intro n w hk h7
    obtain rfl : n = 0 := by omega
    go_enter Tryd.func22, Tryd.ntmps22
    go_wp2_with fail
    go_ret
    exact ⟨rfl, rfl⟩
  | succ k ih =>
    intro n w hk h7
    have IH := Lib.hid ih
    clear ih
    by_cases h2 : n < 2
    · have hf : fact n = 1 := by rcases n with _ | _ | n <;> first | rfl | omega
      have HF := Lib.hid hf
      clear hf
      go_enter Tryd.func22, Tryd.ntmps22
      go_wp2_with fail
      go_ret
      exact ⟨ret_int (by rw [HF.out]; rfl), rfl⟩
    · obtain ⟨m, rfl⟩ : ∃ m, n = m + 1 := ⟨n - 1, by omega⟩
      have b1 := fact_le m (by omega)
      have b2 := fact_le (m + 1) h7
      obtain ⟨F, hF⟩ : ∃ F, F = fact m := ⟨_, rfl⟩
      have e : ((m : Int) + 1) * (F : Int) = (fact (m + 1) : Int) := by rw [hF, fact, Int.natCast_mul]; rfl
      rw [← hF] at b1
      have HE := Lib.hid e
      have b3 : 0 ≤ ((m : Int) + 1) * (F : Int) := by rw [e]; omega
      have b4 : ((m : Int) + 1) * (F : Int) ≤ 5040 := by rw [e]; omega
      have HF := Lib.hid hF
      clear e hF
      go_enter Tryd.func22, Tryd.ntmps22
      go_wp2_with (go_at_call 22; refine (IH.out m _ (by omega) (by omega)).mono ?_; rintro e w' ⟨rfl, rfl⟩; rw [← HF.out])
      go_ret
      exact ⟨ret_int HE.out, rfl⟩

/-- append(v, x...), v the call's own or nil, x any slice of integers that is read: as one step of a region that draws. -/
theorem step_append_sl {ops : Array Oper} {o : Oper} {a : Act} {w : World} {K : Act → World → Prop} {Q : Exit → Act → World → Prop} {E : Prop}
    (hg : o.guard = none) (s x : Operand) (hop : o.op = Op.call { callee := Callee.builtin Builtin.append, args := #[s, x], argTypes := #[23, 23] })
    (B : Nat) (v : Value) (L : List Int) (hs : a.eval s = v) (hO : Ow B w v L) (ad : Addr) (m c : Nat) (M : List Int) (hx : a.eval x = .slice (some ad) m c) (hM : M.length = m) (hc : ∀ j, j < m → w.cell? (ad.add j) = some (.int .i64 (M.getD j 0)))
    (hl : L.length + m ≤ 1000000) (hB : B ≤ w.heap.size)
    (hK : ∀ v' w', Ow B w' v' (L ++ M) → w.grownBy w' v.ownBlock → K (a.put o.dst v') w') :
    if Region.wanted o (yielded ops a.tmps) = true then Oper.wp Tryd.prog o a w K Q else E := by
  obtain ⟨i0, hi, hz0, hz1, hz2⟩ := info_parts infoInt
  have hw : Region.wanted o (yielded ops a.tmps) = true := by simp [Region.wanted, hg]
  rw [if_pos hw]
  obtain ⟨v', w', hrun, r1, r2, _⟩ := run_append_own (P := Tryd.prog) w B 23 o.type 3 i0 (.int .i64 0) 1 8 Tryd.underlying23 hi hz0 hz1 hz2 rfl (by decide) v L.length (L.map (Value.int .i64)) hO ad m c (M.map (Value.int .i64)) (by simp [hM])
    (fun j u hu => by
      rw [List.getElem?_map] at hu
      cases hj : M[j]? with
      | none => rw [hj] at hu; cases hu
      | some y =>
        rw [hj] at hu
        have hlt : j < M.length := (List.getElem?_eq_some_iff.1 hj).1
        have := hc j (by omega)
        rw [this, ← hu]
        simp [hj])
    (fun u hu => by obtain ⟨y, _, rfl⟩ := List.mem_map.1 hu; rfl) (by unfold maxLen; omega) (by omega) hB
  unfold Oper.wp
  simp [execOp, hop, resolve, invoke, builtin, hs, hx, hrun, Result.andThen]
  exact hK v' w' (by unfold Ow; simpa [hM] using r1) r2

theorem after_first {w2 w3 : World} {g n : Nat} {A : Addr} {f : Nat → Value} (hg : g < w2.heap.size) (hA : ∃ o, A = ⟨g, o, none⟩) (hs : ∀ t, t < n → w2.cell? (A.add t) = some (f t))
    (hgr : (w2.alloc (.cells #[] 3)).drew.grownBy w3 (Value.ownBlock (.slice (some ⟨w2.heap.size, 0, none⟩) 0 0))) : (∀ t, t < n → w3.cell? (A.add t) = some (f t)) ∧ w2.heap.size ≤ w3.heap.size := by
  have hz := hgr.size
  simp at hz
  refine ⟨fun t ht => ?_, by omega⟩
  have h1 : w3.heap[g]? = w2.heap[g]? := (hgr.block g (by simp; omega) (by simp [Value.ownBlock]; omega)).trans (Below.heap_alloc w2 _ g hg)
  have h2 := hs t ht
  obtain ⟨o, rfl⟩ := hA
  rw [Addr.add_lit] at h2 ⊢
  exact (World.cell?_of_block (w := w2) h1).trans h2

end Go.Proofs.YtcnkegcogepimaaDoor
