/- perm.Order computes the least common multiple of the lengths of the cycles. -/
import Derived.Test.YtcnkegcogepimaaDoorProg
import Derived.Test.YtcnkegcogepimaaDoorBase
import Derived.Test.YtcnkegcogepimaaDoorLists
import Derived.Test.YtcnkegcogepimaaDoorCycL
import Derived.Test.YtcnkegcogepimaaDoorValid
import Derived.Test.YtcnkegcogepimaaDoorNums
import Derived.Test.YtcnkegcogepimaaDoorRange
import Derived.Test.YtcnkegcogepimaaDoorIter
import Derived.Shelf.Abstract
import Derived.OwnWalkIn
import Derived.TacticsInMore
import Derived.LoopNIn
import Derived.LoopIn
namespace Go.Proofs.YtcnkegcogepimaaDoor
open Go.RowKit Go.Shelf
attribute [local go_sem] Oper.semAt_some

def ordTo (p : List Int) (k : Nat) : Nat := ((cyc p).take k).foldl (fun o c => Nat.lcm o c.length) 1
def ordL (p : List Int) : Nat := ordTo p (cyc p).length

theorem ordTo_succ (p : List Int) (k : Nat) (hk : k < (cyc p).length) : ordTo p (k + 1) = Nat.lcm (ordTo p k) ((cyc p).getD k []).length := by
  unfold ordTo
  rw [List.take_succ_eq_append_getElem hk, List.foldl_append]
  simp [hk]
theorem ordTo_dvd {p : List Int} (h : validL p = true) (k : Nat) : k ≤ (cyc p).length → 1 ≤ ordTo p k ∧ ordTo p k ∣ 420 := by
  induction k with
  | zero => intro _; simp [ordTo]
  | succ k ih =>
    intro hk
    obtain ⟨h1, h2⟩ := ih (by omega)
    obtain ⟨l1, l7⟩ := cyc_len h (k := k) (by omega)
    rw [ordTo_succ p k (by omega)]
    generalize ((cyc p).getD k []).length = n at *
    refine ⟨Nat.lcm_pos h1 l1, Nat.lcm_dvd h2 ?_⟩
    rcases n with _ | _ | _ | _ | _ | _ | _ | _ | n <;> first | omega | decide
theorem ordTo_le {p : List Int} (h : validL p = true) {k : Nat} (hk : k ≤ (cyc p).length) : 1 ≤ ordTo p k ∧ ordTo p k ≤ 420 :=
  ⟨(ordTo_dvd h k hk).1, Nat.le_of_dvd (by decide) (ordTo_dvd h k hk).2⟩

set_option maxHeartbeats 400000 in
theorem order_no (v : Value) (p : List Int) (w : World) (h : Sl w v p) (hx : p.length ≤ 1000000) (hv : validL p = false) :
    Calls Tryd.prog 20 #[v] w fun e w' => e = .returned (.int .i64 0) ∧ Below w.heap.size w w' := by
  have HS := Lib.hid h
  obtain ⟨a, ca, rfl, _⟩ := h
  have HV := Lib.hid hv
  clear hv
  go_enter Tryd.func20, Tryd.ntmps20
  go_wp2_with (go_at_call 23; refine (valid_any _ p _ HS.out hx).mono ?_; rintro e w1 ⟨rfl, hb⟩; rw [HV.out])
  go_ret
  exact ⟨rfl, hb⟩

set_option maxRecDepth 100000 in
set_option maxHeartbeats 1000000 in
theorem order_yes (v : Value) (p : List Int) (w : World) (h : Sl w v p) (hv : validL p = true) :
    Calls Tryd.prog 20 #[v] w fun e w' => e = .returned (.int .i64 (ordL p)) ∧ Below w.heap.size w w' := by
  have HS := Lib.hid h
  obtain ⟨a, ca, rfl, _⟩ := h
  refine (callsIn_wide (n := 3)).1 ?_
  · have hv7 := ((validL_iff p).1 hv).2.1
    have hx : p.length ≤ 1000000 := by omega
    have HV := Lib.hid hv
    refine callsIn_of_wp_marks Tryd.func20 rfl trivial ?_ rfl
    simp only [Tryd.ntmps20, List.size_toArray, List.length_cons, List.length_nil, Nat.reduceAdd, Nat.reduceSub, Array.replicate_succ, Array.replicate_zero, List.push_toArray, List.append_toArray, List.nil_append, List.cons_append]
    clear hv
    gi_wp2_with (first | (refine ⟨trivial, ?_⟩; gi_at_call 23; refine (callsIn_wide.2 (valid_any _ p _ HS.out hx)).mono ?_; rintro e w1 ⟨rfl, hb⟩; rw [HV.out]) | (refine ⟨trivial, ?_⟩; gi_at_call 38; refine (callsIn_wide.2 (cycles_any _ _ _ _)).mono ?_; rintro e w2 ⟨rfl, rfl⟩))
    obtain ⟨W2, hW2⟩ : ∃ W2, W2 = (w1.alloc (.cells #[.int .i64 1] 3)).alloc (.cells #[.slice a p.length ca] 23) := ⟨_, rfl⟩
    have hsz : W2.heap.size = w1.heap.size + 2 := by rw [hW2]; simp
    have hB1 : Blk W2 w1.heap.size 3 #[.int .i64 1] := by rw [hW2]; exact (Blk.new _ _ _).alloc _
    have hB2 : Blk W2 (w1.heap.size + 1) 23 #[.slice a p.length ca] := by
      rw [hW2]; have := Blk.new (w1.alloc (.cells #[.int .i64 1] 3)) 23 #[.slice a p.length ca]
      rwa [World.size_alloc] at this
    have hb2 : Below w.heap.size w W2 := by rw [hW2]; exact (hb.alloc hb.size _).alloc (by have := hb.size; simp; omega) _
    have hws : w.heap.size ≤ w1.heap.size := hb.size
    rw [← hW2]
    clear hW2
    refine wpIn_range_idx (m := 1) (gf := 43) (lb := #[.pointer (some ⟨w1.heap.size + 1, 0, none⟩)]) rfl (enters_of Tryd.func43 (by kernel_rfl) rfl)
      (N := (cyc p).length) (item := cyItem p (W2.heap.size + 2)) (priv := fun b => b = W2.heap.size + 2) (keep := cyKeep w.heap.size (w1.heap.size + 1) (W2.heap.size + 2))
      (fun W hbW hsW => by
        have := iter_seq w.heap.size (w1.heap.size + 1) (.slice a p.length ca) p HV.out W (hB2.below hbW) (by omega) (SlUp.of_below HS.out rfl (hb2.trans (hbW.mono (by omega))))
        rw [hsW] at this
        exact this)
      (fun b hb => by omega) (fun h k => h.trans k) (fun W o => cyKeep.putObj W o (by omega) (by omega) (by omega))
      (fun k vs W hi => by obtain ⟨v, rfl, _⟩ := hi; rfl) (fun k vs W o hs hi => cyItem.putObj o hi (by omega))
      (fun k W => Blk W w1.heap.size 3 #[.int .i64 (ordTo p k)] ∧ Below w.heap.size w W)
      (fun _ _ _ => False)
      (fun k A B hI ht => ⟨hI.1.turns ht (by omega), below_turns hI.2 ht (fun b hb => by omega) (Nat.le_refl _)⟩)
      (fun _ _ _ _ h _ => h)
      ⟨hB1, hb2⟩
      (fun vs => { tmps := #[.slice a p.length ca, undef, .int .i64 0, .pointer (some ⟨w1.heap.size, 0, none⟩), vs.getD 0 undef, .slice a p.length ca, .bool true, .bool false, .slice a p.length ca, .func (.func 43) #[] #[.pointer (some ⟨w1.heap.size + 1, 0, none⟩)], vs.getD 0 undef, undef, undef, undef, undef, undef], defers := [] }) ?assign ?body ?done ?stop
    case assign =>
      rintro l k vs W K ⟨v, rfl, _⟩ hK
      gi_wp2
      exact hK
    case body =>
      rintro l k vs W hk ⟨hB, hbW⟩ ⟨v, rfl, hO, hsW⟩ hs2
      obtain ⟨l1, l7⟩ := cyc_len HV.out hk
      obtain ⟨q1, q2⟩ := ordTo_le HV.out (k := k) (by omega)
      have HO' := Lib.hid (ordTo_succ p k hk)
      obtain ⟨a2, c2, rfl, _⟩ := hO.sl
      clear hO
      generalize ((cyc p).getD k []).length = len at *
      generalize ordTo p k = o at *
      have hc : W.cell? ⟨w1.heap.size, 0, none⟩ = some (.int .i64 o) := by simpa using hB.cell 0
      have hf := hB.free 0
      have HB := Lib.hid hB
      clear hB
      gi_wp2_with (refine ⟨trivial, ?_⟩; gi_at_call 39; refine (CallsIn.inRound l (callsIn_wide.2 (least_any o len _ q1 l1 (by omega) (by omega)))).mono ?_; rintro e w3 ⟨rfl, rfl⟩)
      refine ⟨⟨Below.heap_setCell _ _ _ _ (by show _ ≠ w1.heap.size; omega), Below.heap_setCell _ _ _ _ (by show _ ≠ w1.heap.size; omega)⟩, (cyKeep.refl W).setCell _ _ _ hws (by omega) (by omega), ?_, hbW.setCell hws _⟩
      rw [HO'.out]
      simpa using HB.out.set 0 (.int .i64 (Nat.lcm o len))
    case done =>
      rintro W ⟨hB, hbW⟩ hD
      have hc : W.cell? ⟨w1.heap.size, 0, none⟩ = some (.int .i64 (ordTo p (cyc p).length)) := by simpa using hB.cell 0
      have hDl : W2.heap.size < W.heap.size := (Array.getElem?_eq_some_iff.1 hD).1
      have HB := Lib.hid hB
      clear hB
      have HSZ := Lib.hid hsz
      clear hsz
      gi_wp2
      refine ⟨by simp, .inl ⟨_, _, rfl, run_takeDeferred hD, ?_⟩⟩
      refine ⟨_, results_tmp rfl _ _ _, ?_, below_turns hbW (Turns.putObj (priv := fun b => b = W2.heap.size) _ _ _ rfl) (fun b hb => by have := HSZ.out; omega) (Nat.le_refl _)⟩
      rfl
    case stop =>
      rintro c k W hk h _
      exact h.elim
end Go.Proofs.YtcnkegcogepimaaDoor
