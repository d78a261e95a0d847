/- sorted's comparison: slices.Compare of two elements' images. -/
import Derived.Test.YtdcilefiacohnaaElem
import Derived.Test.YtdcilefiacohnaaQHeld
import Derived.Deep.QuietTactic
import Derived.BigQuiet
namespace Go.Proofs.Ytdcilefiacohnaa
open Go Go.RowKit

/-- the lexicographic comparison -/
def cmpLex : List Int → List Int → Int
  | [], [] => 0
  | [], _ :: _ => -1
  | _ :: _, [] => 1
  | x :: a, y :: b => if x < y then -1 else if y < x then 1 else cmpLex a b
theorem cmpLex_drop (a b : List Int) (k : Nat) (h : ∀ t, t < k → a.getD t 0 = b.getD t 0) (ha : k ≤ a.length) (hb : k ≤ b.length) : cmpLex a b = cmpLex (a.drop k) (b.drop k) := by
  induction k generalizing a b with
  | zero => rfl
  | succ k ih =>
    match a, b with
    | [], _ => simp at ha
    | _ :: _, [] => simp at hb
    | x :: a, y :: b =>
      have h0 : x = y := h 0 (by omega)
      rw [List.drop_succ_cons, List.drop_succ_cons, ← ih a b (fun t ht => h (t + 1) (by omega)) (by simpa using ha) (by simpa using hb), cmpLex, if_neg (by omega), if_neg (by omega)]
theorem cmpLex_at (a b : List Int) (k : Nat) (h : ∀ t, t < k → a.getD t 0 = b.getD t 0) (ha : k < a.length) (hb : k < b.length) (hne : a.getD k 0 ≠ b.getD k 0) : cmpLex a b = if a.getD k 0 < b.getD k 0 then -1 else if b.getD k 0 < a.getD k 0 then 1 else 0 := by
  rw [cmpLex_drop a b k h (by omega) (by omega), List.drop_eq_getElem_cons ha, List.drop_eq_getElem_cons hb, cmpLex]
  have e1 : a.getD k 0 = a[k] := by simp [ha]
  have e2 : b.getD k 0 = b[k] := by simp [hb]
  rw [e1, e2] at hne ⊢
  by_cases h1 : a[k] < b[k]
  · rw [if_pos h1, if_pos h1]
  · rw [if_neg h1, if_neg h1, if_pos (by omega), if_pos (by omega)]
theorem cmpLex_eq (a b : List Int) (h : ∀ t, t < a.length → a.getD t 0 = b.getD t 0) (hl : a.length = b.length) : cmpLex a b = 0 := by
  rw [cmpLex_drop a b a.length h (Nat.le_refl _) (by omega), List.drop_length, hl, List.drop_length]; rfl

theorem isNaN8 (x : Int) (w : World) : Calls Try.prog 104 #[.int .u8 x] w fun e w' => e = .returned (.bool false) ∧ w' = w := by
  go_enter Try.func104, Try.ntmps104
  go_wp2
  go_ret
  exact ⟨by simp, rfl⟩
set_option maxHeartbeats 1000000 in
theorem cmpU8 (x y : Int) (w : World) : Calls Try.prog 98 #[.int .u8 x, .int .u8 y] w fun e w' => e = .returned (.int .i64 (if x < y then -1 else if y < x then 1 else 0)) ∧ w' = w := by
  by_cases h1 : x < y
  · rw [if_pos h1]
    go_enter Try.func98, Try.ntmps98
    go_wp2_with (go_at_call 104; refine (isNaN8 _ _).mono ?_; rintro r w1 ⟨rfl, rfl⟩)
    go_ret
    exact ⟨rfl, rfl⟩
  · rw [if_neg h1]
    by_cases h2 : y < x
    · rw [if_pos h2]
      go_enter Try.func98, Try.ntmps98
      go_wp2_with (go_at_call 104; refine (isNaN8 _ _).mono ?_; rintro r w1 ⟨rfl, rfl⟩)
      go_ret
      exact ⟨rfl, rfl⟩
    · rw [if_neg h2]
      go_enter Try.func98, Try.ntmps98
      go_wp2_with (go_at_call 104; refine (isNaN8 _ _).mono ?_; rintro r w1 ⟨rfl, rfl⟩)
      go_ret
      exact ⟨rfl, rfl⟩

set_option maxHeartbeats 1000000 in
theorem cmpRow (p q : Nat) (a b : List Int) (w : World) (ha : E7 a) (hb : E7 b) (h1 : Blk w p 78 (u8s a)) (h2 : Blk w q 78 (u8s b)) :
    Calls Try.prog 87 #[.slice (some ⟨p, 0, none⟩) 7 7, .slice (some ⟨q, 0, none⟩) 7 7] w fun e w' => e = .returned (.int .i64 (cmpLex a b)) ∧ w' = w := by
  have H1 := Lib.hid h1
  have H2 := Lib.hid h2
  have HA := Lib.hid ha
  have HB := Lib.hid hb
  clear h1 h2 ha hb
  go_enter Try.func87, Try.ntmps87
  go_wp2
  go_loopw [11] (fun i wr => ∃ k : Nat, i = .int .i64 k ∧ k ≤ 7 ∧ wr = w ∧ Hid (∀ t, t < k → a.getD t 0 = b.getD t 0)) (fun i _ => 7 - (intOf i).toNat)
  case atStart => exact ⟨0, rfl, by omega, rfl, Lib.hid (fun t ht => by omega)⟩
  case round =>
    obtain ⟨k, rfl, hk, rfl, HE⟩ := hrel
    by_cases hlt : k < 7
    · have g1 := H1.out.cell k
      rw [u8s_get a k (by rw [HA.out.1]; exact hlt)] at g1
      have g2 := H2.out.cell k
      rw [u8s_get b k (by rw [HB.out.1]; exact hlt)] at g2
      obtain ⟨x, hx⟩ : ∃ x, x = a.getD k 0 := ⟨_, rfl⟩
      obtain ⟨y, hy⟩ : ∃ y, y = b.getD k 0 := ⟨_, rfl⟩
      rw [← hx] at g1
      rw [← hy] at g2
      have HX := Lib.hid hx
      have HY := Lib.hid hy
      clear hx hy
      by_cases hxy : x = y
      · have hc0 : (if x < y then (-1 : Int) else if y < x then 1 else 0) = 0 := by rw [if_neg (by omega), if_neg (by omega)]
        have HN := Lib.hid (show ∀ t, t < k + 1 → a.getD t 0 = b.getD t 0 from fun t ht => by
          by_cases e : t = k
          · rw [e, ← HX.out, ← HY.out]; exact hxy
          · exact HE.out t (by omega))
        clear hxy
        go_wp2_with (go_at_call 98; refine (cmpU8 x y _).mono ?_; rintro r w1 ⟨rfl, rfl⟩; rw [hc0])
        go_roundw
        case rel => exact ⟨k + 1, by go_num, by omega, by first | rfl | trivial, HN⟩
        case measure => simp [intOf]; omega
      · have hv := cmpLex_at a b k HE.out (by rw [HA.out.1]; exact hlt) (by rw [HB.out.1]; exact hlt) (by rw [← HX.out, ← HY.out]; exact hxy)
        rw [← HX.out, ← HY.out] at hv
        obtain ⟨z, hz⟩ : ∃ z, z = (if x < y then (-1 : Int) else if y < x then 1 else 0) := ⟨_, rfl⟩
        rw [← hz] at hv
        have hz0 : ¬ z = 0 := by
          rw [hz]
          by_cases h1 : x < y
          · rw [if_pos h1]; omega
          · rw [if_neg h1, if_pos (by omega)]; omega
        have HV := Lib.hid hv
        have HZ := Lib.hid hz
        clear hv hz hxy
        go_wp2_with (go_at_call 98; refine (cmpU8 x y _).mono ?_; rintro r w1 ⟨rfl, rfl⟩; rw [← HZ.out])
        go_ret
        exact ⟨by rw [HV.out]; rfl, rfl⟩
    · have hk7 : k = 7 := by omega
      subst hk7
      have HV := Lib.hid (cmpLex_eq a b (by rw [HA.out.1]; exact HE.out) (HA.out.1.trans HB.out.1.symm))
      clear HE
      go_wp2
      go_ret
      exact ⟨by rw [HV.out]; rfl, rfl⟩

set_option maxHeartbeats 1000000 in
theorem sortedCmp (a b : List Int) (w : World) (ha : E7 a) (hb : E7 b) : Calls Try.prog 86 #[.agg (u8s a), .agg (u8s b)] w fun e w' => e = .returned (.int .i64 (cmpLex a b)) ∧ ∃ q, w' = ((w.alloc (.cells (u8s a) 78)).alloc (.cells (u8s b) 78)).drewN q := by
  have b1 := Blk.new w 78 (u8s a)
  have b2 := Blk.new (w.alloc (.cells (u8s a) 78)) 78 (u8s b)
  rw [World.size_alloc] at b2
  have C1 := Lib.hid (b1.alloc (.cells (u8s b) 78))
  have C2 := Lib.hid b2
  clear b1 b2
  go_enter Try.func86, Try.ntmps86
  go_wp2
  generalize hW : (w.alloc (.cells (u8s a) 78)).alloc (.cells (u8s b) 78) = W at *
  have hcall : ∀ m, Calls Try.prog 87 #[.slice (some ⟨w.heap.size, 0, none⟩) 7 7, .slice (some ⟨w.heap.size + 1, 0, none⟩) 7 7] (W.drewN m) fun e w'' => e = .returned (.int .i64 (cmpLex a b)) ∧ w'' = W.drewN m := fun m => cmpRow _ _ a b _ ha hb (C1.out.drew m) (C2.out.drew m)
  have HCall := Lib.hid hcall
  clear hcall
  go_quiet ((go_at_call 87; exact Calls.quiet_of_same (HCall.out _)))
  go_wp2
  go_ret
  exact ⟨rfl, nq, by rw [hW]⟩
end Go.Proofs.Ytdcilefiacohnaa
