/- slices.Delete, at one element of a slice of the program's own, moves the later elements to the left. -/
import Derived.Test.YtcnkegcogepimaaDoorProg
import Derived.Test.YtcnkegcogepimaaDoorBase
import Derived.Test.YtcnkegcogepimaaDoorLists
import Derived.Test.YtcnkegcogepimaaDoorMul
import Derived.Test.YtcnkegcogepimaaDoorRange
import Derived.Deep.RegionLaw
import Derived.Lib.SliceRun
namespace Go.Proofs.YtcnkegcogepimaaDoor
open Go.RowKit

theorem zeroInt (w : World) : (zeroValue 3).run Tryd.prog w = .ok (.int .i64 0) w := by kernel_rfl

def layL : List Int → Nat → List Int → List Int
  | cs, _, [] => cs
  | cs, k, x :: r => layL (cs.set k x) (k + 1) r
theorem length_layL : ∀ (l cs : List Int) (k : Nat), (layL cs k l).length = cs.length
  | [], _, _ => rfl
  | x :: r, cs, k => by rw [layL, length_layL r]; simp
theorem layL_eq : ∀ (l cs : List Int) (k : Nat), k + l.length ≤ cs.length → layL cs k l = cs.take k ++ l ++ cs.drop (k + l.length)
  | [], cs, k, _ => by simp [layL]
  | x :: r, cs, k, h => by
    simp only [List.length_cons] at h
    rw [layL, layL_eq r _ _ (by simp; omega), List.take_succ_eq_append_getElem (by simp; omega)]
    simp [List.take_set, List.drop_set]
    rw [if_pos (by omega), List.set_eq_of_length_le (by simp; omega), show k + 1 + r.length = k + (r.length + 1) from by omega]

theorem Blk.setCells {g : Nat} {t : TypeId} : ∀ (l cs : List Int) (w : World) (k : Nat), Blk w g t (ints cs) → Blk (w.setCells g k (l.map (Value.int .i64))) g t (ints (layL cs k l))
  | [], _, _, _, h => h
  | x :: r, cs, w, k, h => by
    have := h.set k (.int .i64 x)
    rw [ints_set] at this
    exact Blk.setCells r _ _ _ this
theorem Turns.setCells {priv : Nat → Prop} {A : World} {g : Nat} (hp : priv g) : ∀ (l : List Value) (B : World) (k : Nat), Turns priv A B → Turns priv A (B.setCells g k l)
  | [], _, _, h => h
  | _ :: r, _, _, h => Turns.setCells hp r _ _ (h.setCell _ _ _ hp)

theorem del_list (cs mv : List Int) (i m : Nat) (hm : m ≤ cs.length) (hi : i < m) (hl : mv.length = m - (i + 1)) : layL (layL cs i mv) (m - 1) [0] = cs.take i ++ mv ++ [0] ++ cs.drop m := by
  rw [layL_eq [0] _ _ (by rw [length_layL]; simp; omega), layL_eq mv cs i (by omega)]
  have e : i + mv.length = m - 1 := by omega
  have e3 : (cs.take i ++ mv).length = m - 1 := by simp; omega
  rw [e, List.take_append_of_le_length (by omega), List.take_of_length_le (by omega), List.drop_append, List.drop_eq_nil_of_le (by simp; omega), e3, List.drop_drop]
  simp only [List.length_singleton, List.nil_append]
  rw [show m - 1 + (m - 1 + 1 - (m - 1)) = m from by omega]

set_option maxHeartbeats 1600000 in
set_option maxRecDepth 1000000 in
theorem delete_any (g m cap i : Nat) (cs : List Int) (w : World) (hB : Blk w g 3 (ints cs)) (hl : cs.length = cap) (him : i < m) (hm : m ≤ cap) (hc : cap ≤ 1000000) :
    Calls Tryd.prog 37 #[.slice (some ⟨g, 0, none⟩) m cap, .int .i64 i, .int .i64 ((i : Int) + 1)] w fun e w' => e = .returned (.slice (some ⟨g, 0, none⟩) (m - 1) cap) ∧
      Blk w' g 3 (ints (cs.take i ++ (cs.take m).drop (i + 1) ++ [0] ++ cs.drop m)) ∧ Turns (fun b => b = g) w w' := by
  obtain ⟨i0, hi0, hz0, hz1, hz2⟩ := info_parts infoInt
  have cell : ∀ k, k < cs.length → w.cell? ⟨g, k, none⟩ = some (.int .i64 (cs.getD k 0)) := fun k hk => by rw [hB.cell k]; exact ints_get cs k hk
  obtain ⟨mv, hmv⟩ : ∃ mv, mv = (cs.take m).drop (i + 1) := ⟨_, rfl⟩
  have hlen : mv.length = m - (i + 1) := by rw [hmv]; simp; omega
  obtain ⟨news, hnews⟩ : ∃ news, news = mv.map (Value.int .i64) := ⟨_, rfl⟩
  have hnl : news.length = m - (i + 1) := by rw [hnews]; simp [hlen]
  obtain ⟨A, hA, hsrc⟩ : ∃ A : Addr, (if cap = i + 1 then some (⟨g, 0, none⟩ : Addr) else some ⟨g, i + 1, none⟩) = some A ∧ Hid (∀ t u, news[t]? = some u → w.drew.cell? (A.add t) = some u) := by
    by_cases h : cap = i + 1
    · refine ⟨⟨g, 0, none⟩, by simp [h], fun t u hu => ?_⟩
      have h0 : news.length = 0 := by rw [hnl]; omega
      rw [List.length_eq_zero_iff.1 h0] at hu
      simp at hu
    · refine ⟨⟨g, i + 1, none⟩, by simp [h], fun t u hu => ?_⟩
      have ht : t < m - (i + 1) := by
        have := (List.getElem?_eq_some_iff.1 hu).1
        rwa [hnl] at this
      rw [Addr.add_lit]
      refine (cell (i + 1 + t) (by omega)).trans ?_
      rw [← hu, hnews, hmv, List.getElem?_map, List.getElem?_drop, List.getElem?_take, if_pos (by omega)]
      simp [show i + 1 + t < cs.length by omega]
  have s1 : Hid (news.length = (m - (i + 1)) * 1) := by rw [Nat.mul_one]; exact hnl
  have s2 : Hid (∀ u ∈ news, u.oneCell' = true) := by
    intro u hu
    rw [hnews] at hu
    obtain ⟨x, _, rfl⟩ := List.mem_map.1 hu
    rfl
  have s3 : Hid (∀ j, j < news.length → (w.drew.cell? ⟨g, 0 + i * 1 + j, none⟩).isSome = true ∧ w.drew.frozen? ⟨g, 0 + i * 1 + j, none⟩ = false) := by
    intro j hj
    rw [hnl] at hj
    rw [Nat.mul_one, Nat.zero_add]
    exact ⟨by show (w.cell? _).isSome = true; rw [cell (i + j) (by omega)]; rfl, hB.free _⟩
  obtain ⟨W1, hW1⟩ : ∃ W1, W1 = w.drew.setCells g (0 + i * 1) news := ⟨_, rfl⟩
  have hB1 : Blk W1 g 3 (ints (layL cs i mv)) := by
    rw [hW1, hnews, Nat.mul_one, Nat.zero_add]
    exact Blk.setCells _ _ _ _ hB
  have ht1 : Turns (fun b => b = g) w W1 := by
    rw [hW1]
    exact Turns.setCells (priv := fun b => b = g) rfl _ _ _ ⟨rfl, rfl, rfl, Nat.le_refl _, fun _ _ _ => rfl⟩
  have hc1 : ∃ u, W1.cell? ⟨g, m - 1, none⟩ = some u := by
    rw [hB1.cell, ints_get _ _ (by rw [length_layL]; omega)]; exact ⟨_, rfl⟩
  obtain ⟨u1, hc1⟩ := hc1
  have hf1 := hB1.free (m - 1)
  have hW := Lib.hid hW1
  have HB1 := Lib.hid hB1
  have HM := Lib.hid hmv
  have HL := Lib.hid hl
  have HLen := Lib.hid hlen
  have hwr : IntKind.i64.wrap ((i : Int) + 1) = (i : Int) + 1 := by rw [IntKind.wrap_i64]; omega
  have hp0 : (0 : Int) ≤ (i : Int) + 1 := by omega
  have hp1 : (i : Int) + 1 ≤ (m : Int) := by omega
  have hp2 : ((i : Int) + 1).toNat = i + 1 := by omega
  have hq : ((i : Int) == (i : Int) + 1) = false := by simp; omega
  have hic : i ≤ cap := by omega
  have hcl : ∀ ty, (Builtin.clear_ #[23] ty #[.slice (some ⟨g, i + (m - (i + 1)), none⟩) (m - (i + (m - (i + 1)))) (cap - (i + (m - (i + 1))))]).run Tryd.prog W1 = .ok (.tuple #[]) (W1.setCells g (i + (m - (i + 1))) (List.replicate (m - (i + (m - (i + 1)))) (Value.int .i64 0))) := by
    intro ty
    refine Lib.run_clear_slice W1 _ _ ty _ Tryd.underlying23 zeroInt rfl rfl g _ _ _ (by omega) (fun t ht => ?_) (fun t _ => hB1.free _)
    rw [hB1.cell, ints_get _ _ (by rw [length_layL]; omega)]; rfl
  clear hW1 hB1 hmv hl hlen hnews hnl cell hB
  go_enter Tryd.func37, Tryd.ntmps37
  go_wp2_with fail
  go_region_law (refine step_append_room rfl (.tmp 22) (.tmp 25) 23 rfl 3 i0 1 Tryd.underlying23 hi0 hz1 g 0 i cap (by simp [Act.eval, Act.put]) A (m - (i + 1)) (cap - (i + 1)) news (by simp [Act.eval, Act.put]) s1.out hsrc.out s2.out (by omega) s3.out ?_; rw [← hW.out])
  go_wp2
  go_ret
  refine ⟨?_, ?_, ?_⟩
  · show Ending.returned (Value.slice _ _ _) = _
    rw [show i + (m - (i + 1)) = m - 1 from by omega]
  · have e1 : m - (i + (m - (i + 1))) = 1 := by omega
    have e2 : i + (m - (i + 1)) = m - 1 := by omega
    rw [e1, e2]
    have := Blk.setCells [0] _ _ (m - 1) HB1.out
    rw [del_list cs mv i m (by have := HL.out; omega) him (by have := HLen.out; omega)] at this
    rw [← HM.out]
    exact this
  · exact Turns.setCells (priv := fun b => b = g) rfl _ _ _ ht1
end Go.Proofs.YtcnkegcogepimaaDoor
