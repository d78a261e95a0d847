/- The walks of the statements' own functions, first part: PermMuls. -/
import Derived.Test.YtcnkegcogepimaaDoorProg
import Derived.Test.YtcnkegcogepimaaDoorBase
import Derived.Test.YtcnkegcogepimaaDoorRef
import Derived.Test.YtcnkegcogepimaaDoorPair
import Derived.Test.YtcnkegcogepimaaDoorAlive
namespace Go.Proofs.YtcnkegcogepimaaDoor
open Go.RowKit

/-- what the rows' frame says of a slice that came in, in my words -/
theorem sl_of_row {w : World} {a : Option Addr} {len cap : Nat} {zs : List Int}
    (h : (a = none ∧ len = 0 ∧ cap = 0 ∧ zs = []) ∨ ∃ x, a = some x ∧ len ≤ cap ∧ cap ≤ maxLen ∧ zs.length = cap ∧ (∀ i, i < zs.length → w.cell? (x.add i) = some (.int .i64 (zs.getD i 0))) ∧ ∀ n ∈ zs, (Lit.int .i64 n).wf = true) :
    Sl w (.slice a len cap) (zs.take len) := by
  rcases h with ⟨rfl, rfl, rfl, rfl⟩ | ⟨x, rfl, hl, _, hz, hc, _⟩
  · exact ⟨none, 0, rfl, .inl rfl⟩
  · have hlen : (zs.take len).length = len := by rw [List.length_take]; omega
    refine ⟨some x, cap, by rw [hlen], ?_⟩
    rcases Nat.eq_zero_or_pos len with h0 | h0
    · subst h0; exact .inl (by simp)
    · obtain ⟨b, off, sp⟩ := x
      have hsp : sp = none := by
        have h := hc 0 (by omega)
        unfold World.cell? Addr.add at h
        cases sp with
        | none => rfl
        | some s => simp at h; split at h <;> simp at h
      subst hsp
      refine .inr ⟨b, off, rfl, fun i hi => ?_⟩
      rw [hlen] at hi
      have := hc i (by omega)
      rw [show (zs.take len).getD i 0 = zs.getD i 0 from by simp [hi], ← Addr.add_lit]
      exact this

theorem sls_one (w : World) (a : Option Addr) (n c : Nat) : Sls (w.alloc (.cells #[.slice a n c] 23)) (.slice (some ⟨w.heap.size, 0, none⟩) 1 1) [.slice a n c] := by
  have hB := Blk.new w 23 #[.slice a n c]
  refine ⟨w.heap.size, 0, 1, rfl, fun i hi => ?_⟩
  match i, hi with
  | 0, _ => exact ⟨by rw [hB.cell 0]; rfl, a, n, c, rfl⟩
theorem sls_two (w : World) (a b : Option Addr) (n c m d : Nat) : Sls (w.alloc (.cells #[.slice a n c, .slice b m d] 23)) (.slice (some ⟨w.heap.size, 0, none⟩) 2 2) [.slice a n c, .slice b m d] := by
  have hB := Blk.new w 23 #[.slice a n c, .slice b m d]
  refine ⟨w.heap.size, 0, 2, rfl, fun i hi => ?_⟩
  match i, hi with
  | 0, _ => exact ⟨by rw [hB.cell 0]; rfl, a, n, c, rfl⟩
  | 1, _ => exact ⟨by rw [hB.cell 1]; rfl, b, m, d, rfl⟩
theorem short_two {a b : Option Addr} {n c m d : Nat} (h : n ≤ 100 ∧ m ≤ 100) : shortB [.slice a n c, .slice b m d] = true := shortB_yes fun i hi => by
  match i, hi with
  | 0, _ => exact h.1
  | 1, _ => exact h.2
theorem short_two_no {a b : Option Addr} {n c m d : Nat} (h : ¬ (n ≤ 100 ∧ m ≤ 100)) : shortB [.slice a n c, .slice b m d] = false := by
  by_cases h1 : n ≤ 100
  · exact shortB_no (i := 1) (by simp) (by show ¬ m ≤ 100; omega)
  · exact shortB_no (i := 0) (by simp) h1

end Go.Proofs.YtcnkegcogepimaaDoor
