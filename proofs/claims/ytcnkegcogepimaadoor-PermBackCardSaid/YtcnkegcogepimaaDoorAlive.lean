/- The statements' own 'alive' answers true, and nothing that lay has turned. -/
import Derived.Test.YtcnkegcogepimaaDoorProg
import Derived.Test.YtcnkegcogepimaaDoorBase
import Derived.Test.YtcnkegcogepimaaDoorPair
import Derived.Test.YtcnkegcogepimaaDoorSame
import Derived.Test.YtcnkegcogepimaaDoorOrder
import Derived.Test.YtcnkegcogepimaaDoorUnr
namespace Go.Proofs.YtcnkegcogepimaaDoor
open Go.RowKit

theorem al1 : errP [1, 0, 2] [0, 2, 1] = 0 := by decide
theorem al2 : mulE [1, 0, 2] [0, 2, 1] = [2, 0, 1] := by decide
theorem al3 : errP [1, 2, 3, 4, 0] [2, 0, 4, 1, 3] = 0 := by decide
theorem al4 : commE [1, 2, 3, 4, 0] [2, 0, 4, 1, 3] = [1, 4, 3, 0, 2] := by decide
theorem al5 : validL [1, 4, 3, 0, 2] = true := by decide
theorem al6 : ordL [1, 4, 3, 0, 2] = 5 := by decide +kernel
theorem al7 : unrL 3 3 = [1, 2, 0] := by decide

theorem lit_sl (w : World) (L : List Int) (cs : Array Value) (h : cs = ints L) (hL : L.length ≤ 1000000) (n : Nat) (hn : n = L.length) : Sl (w.alloc (.cells cs 3)) (.slice (some ⟨w.heap.size, 0, none⟩) n n) L := by
  subst h
  exact (Ow.of_blk (B := 0) (Blk.new w 3 (ints L)) (Nat.zero_le _) hL n hn).sl

theorem lit_two (w : World) (L M : List Int) (cs ds : Array Value) (h : cs = ints L) (k : ds = ints M) (hL : L.length ≤ 1000000) (hM : M.length ≤ 1000000) (n m : Nat) (hn : n = L.length) (hm : m = M.length) :
    Sl ((w.alloc (.cells cs 3)).alloc (.cells ds 3)) (.slice (some ⟨w.heap.size, 0, none⟩) n n) L ∧ Sl ((w.alloc (.cells cs 3)).alloc (.cells ds 3)) (.slice (some ⟨w.heap.size + 1, 0, none⟩) m m) M ∧ Below w.heap.size w ((w.alloc (.cells cs 3)).alloc (.cells ds 3)) := by
  have a1 := lit_sl w L cs h hL n hn
  have a2 := lit_sl (w.alloc (.cells cs 3)) M ds k hM m hm
  rw [World.size_alloc] at a2
  exact ⟨a1.below ((Below.refl _ _).alloc (Nat.le_refl _) _), a2, ((Below.refl _ w).alloc (Nat.le_refl _) _).alloc (by simp) _⟩

set_option maxHeartbeats 1000000 in
theorem alive_any (w : World) : Calls Tryd.prog 6 #[] w fun e w' => e = .returned (.bool true) ∧ Below w.heap.size w w' := by
  go_enter Tryd.func6, Tryd.ntmps6
  go_wp2_with fail
  obtain ⟨a1, a2, B1⟩ := lit_two w [1, 0, 2] [0, 2, 1] _ _ rfl rfl (by decide) (by decide) 3 3 rfl rfl
  refine (Mul_any _ _ _ _ _ a1 a2 (by decide) (by decide)).mono ?_
  rintro e w1 ⟨x1, rfl, O1, b1⟩
  rw [al1]
  rw [al2] at O1
  have H1 := Lib.hid O1
  have HB1 := Lib.hid (B1.trans (b1.mono B1.size))
  clear a1 a2 B1 b1 O1
  go_wp2_with fail
  obtain ⟨a1, a2, B1⟩ := lit_two w1 [1, 2, 3, 4, 0] [2, 0, 4, 1, 3] _ _ rfl rfl (by decide) (by decide) 5 5 rfl rfl
  refine (Comm_any _ _ _ _ _ a1 a2 (by decide) (by decide)).mono ?_
  rintro e w2 ⟨x2, rfl, O2, b2⟩
  rw [al3]
  rw [al4] at O2
  have BB := B1.trans (b2.mono B1.size)
  have H1 := Lib.hid (H1.out.below BB)
  have H2 := Lib.hid O2
  have HB2 := Lib.hid (HB1.out.trans (BB.mono HB1.out.size))
  clear a1 a2 B1 b2 O2 BB
  go_wp2_with fail
  refine (unrank_ok 3 3 _ (by decide) (by decide) (by decide)).mono ?_
  rintro e w3 ⟨x3, rfl, O3, b3⟩
  rw [al7] at O3
  have H1 := Lib.hid (H1.out.below b3)
  have H2 := Lib.hid (H2.out.below b3)
  have H3 := Lib.hid O3
  have HB3 := Lib.hid (HB2.out.trans (b3.mono HB2.out.size))
  clear b3 O3
  go_wp2_with fail
  have a1 := lit_sl w3 [2, 0, 1] _ rfl (by decide) 3 rfl
  have B1 : Below w3.heap.size w3 (w3.alloc (.cells (ints [2, 0, 1]) 3)) := (Below.refl _ _).alloc (Nat.le_refl _) _
  refine (same_any _ _ _ _ _ (H1.out.below B1).sl a1 (by decide) (by decide)).mono ?_
  rintro e w4 ⟨rfl, n4, rfl⟩
  rw [decide_eq_true rfl]
  have H2 := Lib.hid (H2.out.below (below_drewN' B1 n4))
  have H3 := Lib.hid (H3.out.below (below_drewN' B1 n4))
  have HB4 := Lib.hid (HB3.out.trans ((below_drewN' B1 n4).mono HB3.out.size))
  clear a1 B1
  go_wp2_with fail
  refine (order_yes _ _ _ H2.out.sl al5).mono ?_
  rintro e w5 ⟨rfl, b5⟩
  rw [al6]
  have H3 := Lib.hid (H3.out.below b5)
  have HB5 := Lib.hid (HB4.out.trans (b5.mono HB4.out.size))
  clear b5
  go_wp2_with fail
  have a1 := lit_sl w5 [1, 2, 0] _ rfl (by decide) 3 rfl
  have B1 : Below w5.heap.size w5 (w5.alloc (.cells (ints [1, 2, 0]) 3)) := (Below.refl _ _).alloc (Nat.le_refl _) _
  refine (same_any _ _ _ _ _ (H3.out.below B1).sl a1 (by decide) (by decide)).mono ?_
  rintro e w6 ⟨rfl, n6, rfl⟩
  rw [decide_eq_true rfl]
  have HB6 := Lib.hid (HB5.out.trans ((below_drewN' B1 n6).mono HB5.out.size))
  clear a1 B1
  go_wp2
  go_ret
  exact ⟨rfl, HB6.out⟩
end Go.Proofs.YtcnkegcogepimaaDoor
