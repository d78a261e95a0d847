/- perm.enterCycle and perm.parseCycle, by their meaning. -/
import Derived.Test.YtcnkegcogepimaaDoorProg
import Derived.Test.YtcnkegcogepimaaDoorBase
import Derived.Test.YtcnkegcogepimaaDoorMul
import Derived.Test.YtcnkegcogepimaaDoorRange
import Derived.Test.YtcnkegcogepimaaDoorText
import Derived.Maps.AppendAt
namespace Go.Proofs.YtcnkegcogepimaaDoor
open Go.RowKit

theorem Ow.form2 {B : Nat} {w : World} {v : Value} {T : List Int} (h : Ow B w v T) (hn : 1 ≤ T.length) : ∃ b o c, v = .slice (some ⟨b, o, none⟩) T.length c ∧ (B ≤ b ∧ b < w.heap.size) ∧ ∀ i, i < T.length → w.cell? ⟨b, o + i, none⟩ = some (.int .i64 (T.getD i 0)) := by
  have hl := h.lt
  obtain ⟨a, c, rfl, hc⟩ := h.sl
  rcases hc with hc | ⟨b, o, rfl, hc⟩
  · rw [hc] at hn; simp at hn
  · exact ⟨b, o, c, rfl, hl b rfl, hc⟩

set_option maxHeartbeats 1000000 in
theorem enter_any (g : Nat) (P c : List Int) (cv : Value) (w : World) (hB : Blk w g 3 (ints P)) (hc : Ow (g + 1) w cv c) (hr : ∀ x, x ∈ c → 0 ≤ x ∧ x < (P.length : Int)) (hcl : c.length ≤ 1000000) :
    Calls Tryd.prog 42 #[.slice (some ⟨g, 0, none⟩) P.length P.length, cv] w fun e w' => e = .returned (.tuple #[]) ∧ Blk w' g 3 (ints (ent P c)) ∧ Turns (fun b => b = g) w w' := by
  have HC := Lib.hid hc
  have HR := Lib.hid hr
  have HB := Lib.hid hB
  obtain ⟨a, ca, rfl, _⟩ := hc.sl
  clear hc hr hB
  go_enter Tryd.func42, Tryd.ntmps42
  go_wp2
  go_loopw [8] (fun i wr => ∃ k : Nat, k ≤ c.length ∧ i = .int .i64 k ∧ Hid (Blk wr g 3 (ints (fl P c (rot c) k))) ∧ Hid (Turns (fun b => b = g) w wr)) (fun i _ => c.length - (intOf i).toNat)
  case atStart => exact ⟨0, Nat.zero_le _, rfl, HB, Lib.hid (Turns.refl _ _)⟩
  case round =>
    clear HB
    obtain ⟨k, hk, rfl, hB, ht⟩ := hrel
    by_cases hlt : k < c.length
    · obtain ⟨b2, o2, c2, e2, ⟨hb1, hb2⟩, hcell⟩ := Ow.form2 (HC.out.turns ht.out (fun r e hr => by have := (HC.out.lt r e).1; omega)) (by omega)
      cases e2
      have hm : (k + 1) % c.length < c.length := Nat.mod_lt _ (by omega)
      have g1 := hcell k hlt
      have g2 := hcell ((k + 1) % c.length) hm
      have hx := HR.out (c.getD k 0) (by simp [hlt])
      have hrot := rot_get hlt
      have hfl : fl P c (rot c) (k + 1) = (fl P c (rot c) k).set (c.getD k 0).toNat ((rot c).getD k 0) := rfl
      rw [hrot] at hfl
      obtain ⟨x, hxx⟩ : ∃ x, x = c.getD k 0 := ⟨_, rfl⟩
      obtain ⟨y, hyy⟩ : ∃ y, y = c.getD ((k + 1) % c.length) 0 := ⟨_, rfl⟩
      rw [← hxx] at g1 hx hfl
      rw [← hyy] at g2 hfl
      obtain ⟨n, rfl⟩ := Int.eq_ofNat_of_zero_le hx.1
      have hn : n < P.length := by omega
      obtain ⟨m, hmm⟩ : ∃ m, m = (k + 1) % c.length := ⟨_, rfl⟩
      rw [← hmm] at g2 hm
      have hrem : ((k : Int) + 1) % (c.length : Int) = (m : Int) := by rw [hmm]; simp
      have hlen := length_fl P c (rot c) k
      have hcur : ∃ u, wr.cell? ⟨g, n, none⟩ = some u := ⟨_, by rw [hB.out.cell n]; exact ints_get _ _ (by omega)⟩
      obtain ⟨u, hcur⟩ := hcur
      have hf := hB.out.free n
      have hset : Blk (wr.setCell ⟨g, n, none⟩ (.int .i64 y)) g 3 (ints (fl P c (rot c) (k + 1))) := by
        have := hB.out.set n (.int .i64 y)
        rw [ints_set] at this
        rw [hfl]
        exact this
      have HSet := Lib.hid hset
      have HM := Lib.hid hmm
      clear hset hfl hrot hcell hmm hxx hyy hlen
      go_wp2
      go_roundw
      case rel => exact ⟨k + 1, by omega, by go_num, HSet, Lib.hid (ht.out.setCell _ _ _ rfl)⟩
      case measure => simp [intOf]; omega
    · have hke : k = c.length := by omega
      have hlt' : c.length ≤ k := by omega
      have HE : Hid (Blk wr g 3 (ints (ent P c))) := Lib.hid (by have := hB.out; rw [hke] at this; exact this)
      clear hke hB
      go_wp2
      go_end0
      exact ⟨rfl, HE.out, ht.out⟩
end Go.Proofs.YtcnkegcogepimaaDoor
