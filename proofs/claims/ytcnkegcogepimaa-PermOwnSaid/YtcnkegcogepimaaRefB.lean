/- The reference's Parity, and its comparison of lists of lists, by their meaning. -/
import Derived.Test.YtcnkegcogepimaaProg
import Derived.Test.YtcnkegcogepimaaBase
import Derived.Test.YtcnkegcogepimaaSame
import Derived.Test.YtcnkegcogepimaaRef
import Derived.Test.YtcnkegcogepimaaParL
import Derived.Test.YtcnkegcogepimaaCycs
import Derived.Deep.QuietTactic
import Derived.BigQuiet
namespace Go.Proofs.Ytcnkegcogepimaa
open Go.RowKit

theorem gtL_snoc (l : List Int) (x b : Int) : gtL (l ++ [x]) b = gtL l b + if b < x then 1 else 0 := by
  unfold gtL
  rw [List.filter_append]
  by_cases h : b < x <;> simp [h]
theorem gtL_le (l : List Int) (b : Int) : gtL l b ≤ l.length := List.length_filter_le _ _
theorem gtL_take (p : List Int) (j : Nat) (b : Int) (hj : j < p.length) : gtL (p.take (j + 1)) b = gtL (p.take j) b + if b < p.getD j 0 then 1 else 0 := by
  rw [List.take_succ_eq_append_getElem hj, gtL_snoc]
  simp [hj]
theorem ivTo_le (p : List Int) (k : Nat) : ivTo p k ≤ k * p.length := by
  induction k with
  | zero => simp [ivTo]
  | succ k ih =>
    have h1 := gtL_le (p.take k) (p.getD k 0)
    have h2 : (p.take k).length ≤ p.length := List.length_take_le' _ _
    rw [ivTo, Nat.add_mul, Nat.one_mul]
    omega

set_option maxHeartbeats 1000000 in
theorem refpar_any (v : Value) (p : List Int) (w : World) (h : Sl w v p) (h7 : p.length ≤ 7) :
    Calls Try.prog 23 #[v] w fun e w' => e = .returned (.int .i64 ((ivL p % 2 : Nat) : Int)) ∧ ∃ n, w' = w.drewN n := by
  obtain ⟨a, ca, rfl, h⟩ := h
  go_enter Try.func23, Try.ntmps23
  go_wp2
  go_loopw [3, 4, 5] (fun c i _ wr => ∃ k : Nat, k ≤ p.length ∧ i = .int .i64 k ∧ c = .int .i64 (ivTo p k) ∧ ∃ n, wr = w.drewN n) (fun _ i _ _ => p.length - (intOf i).toNat)
  case atStart => exact ⟨0, Nat.zero_le _, rfl, rfl, 0, rfl⟩
  case round =>
    obtain ⟨k, hk, rfl, rfl, n, rfl⟩ := hrel
    by_cases hlt : k < p.length
    · rcases h with h | ⟨b1, o1, rfl, c1⟩
      · simp [h] at hlt
      have C1 := Lib.hid c1
      clear c1
      obtain ⟨x, hx0⟩ : ∃ x, x = p.getD k 0 := ⟨_, rfl⟩
      have g1 : w.cell? ⟨b1, o1 + k, none⟩ = some (.int .i64 x) := by rw [hx0]; exact C1.out k hlt
      have hle := ivTo_le p k
      have hle2 : k * p.length ≤ 7 * 7 := Nat.mul_le_mul (by omega) h7
      have hs : ivTo p (k + 1) = ivTo p k + gtL (p.take k) x := by rw [ivTo, hx0]
      have HS := Lib.hid hs
      have hI : ivTo p k ≤ 49 := by omega
      generalize ivTo p k = I at *
      clear hx0 hs hle hle2
      go_wp2
      go_loopw [3, 5] (fun c i wr => ∃ j : Nat, j ≤ k ∧ i = .int .i64 j ∧ c = .int .i64 ((I + gtL (p.take j) x : Nat) : Int) ∧ ∃ n, wr = w.drewN n) (fun _ i _ => k - (intOf i).toNat)
      case atStart => exact ⟨0, Nat.zero_le _, rfl, by simp [gtL], n, rfl⟩
      case round =>
        obtain ⟨j, hj, rfl, rfl, m, rfl⟩ := hrel
        have hG : gtL (p.take j) x ≤ 7 := by
          have h1 := gtL_le (p.take j) x
          have h2 : (p.take j).length ≤ p.length := List.length_take_le' _ _
          omega
        by_cases hjk : j < k
        · obtain ⟨y, hy0⟩ : ∃ y, y = p.getD j 0 := ⟨_, rfl⟩
          have g2 : w.cell? ⟨b1, o1 + j, none⟩ = some (.int .i64 y) := by rw [hy0]; exact C1.out j (by omega)
          have hjl : j < p.length := by omega
          have ht := gtL_take p j x hjl
          rw [← hy0] at ht
          have HT := Lib.hid ht
          generalize gtL (p.take j) x = G at *
          clear hy0 ht
          by_cases hxy : x < y
          · have hb : decide (x < y) = true := by simp [hxy]
            go_wp2
            go_quiet (fail)
            go_wp2
            go_roundw
            case rel => exact ⟨j + 1, by omega, by go_num, by rw [HT.out, if_pos hxy]; go_num, m + nq, by simp⟩
            case measure => simp [intOf]; omega
          · have hb : decide (x < y) = false := by simp [hxy]
            go_wp2
            go_quiet (fail)
            go_wp2
            go_roundw
            case rel => exact ⟨j + 1, by omega, by go_num, by rw [HT.out, if_neg (by omega)]; rfl, m + nq, by simp⟩
            case measure => simp [intOf]; omega
        · have hje : j = k := by omega
          have hjk' : k ≤ j := by omega
          have hs2 : I + gtL (p.take j) x = ivTo p (k + 1) := by rw [HS.out, hje]
          have HS2 := Lib.hid hs2
          clear hs2 hje
          go_wp2
          go_roundw
          case rel => exact ⟨k + 1, by omega, by go_num, by rw [HS2.out], m, rfl⟩
          case measure => simp [intOf]; omega
    · have hke : k = p.length := by omega
      have hlt' : p.length ≤ k := by omega
      have e : ivTo p k = ivL p := by rw [hke]; rfl
      have HE := Lib.hid e
      have hle := ivTo_le p k
      have hle2 : k * p.length ≤ 7 * 7 := Nat.mul_le_mul (by omega) h7
      clear e hke
      generalize ivTo p k = I at *
      go_wp2
      go_ret
      refine ⟨ret_int ?_, n, rfl⟩
      rw [← HE.out]
      first | rfl | omega | simp

set_option maxHeartbeats 400000 in
theorem sameints_any (v1 v2 : Value) (xs ys : List Int) (w : World) (h1 : Sl w v1 xs) (h2 : Sl w v2 ys) (hx : xs.length ≤ 1000000) (hy : ys.length ≤ 1000000) :
    Calls Try.prog 45 #[v1, v2] w fun e w' => e = .returned (.bool (decide (xs = ys))) ∧ ∃ n, w' = w.drewN n := by
  obtain ⟨a, ca, rfl, h1⟩ := h1
  obtain ⟨b, cb, rfl, h2⟩ := h2
  by_cases hl : xs.length = ys.length
  · have HL := Lib.hid hl
    have hlb : ((xs.length : Int) != (ys.length : Int)) = false := by simp [hl]
    clear hl
    go_enter Try.func45, Try.ntmps45
    go_wp2
    go_loopw [5] (fun i wr => ∃ k : Nat, k ≤ xs.length ∧ i = .int .i64 k ∧ Hid (xs.take k = ys.take k) ∧ ∃ n, wr = w.drewN n) (fun i _ => xs.length - (intOf i).toNat)
    case atStart => exact ⟨0, Nat.zero_le _, rfl, Lib.hid (by simp), 0, rfl⟩
    case round =>
      obtain ⟨k, hk, rfl, ht, n, rfl⟩ := hrel
      by_cases hlt : k < xs.length
      · have hky : k < ys.length := by have := HL.out; omega
        rcases h1 with h1 | ⟨b1, o1, rfl, c1⟩
        · simp [h1] at hlt
        rcases h2 with h2 | ⟨b2, o2, rfl, c2⟩
        · simp [h2] at hky
        have g1 := c1 k hlt
        have g2 := c2 k hky
        go_wp2
        go_quiet (fail)
        go_wp2
        · have hne : (xs[k] != ys[k]) = true := by assumption
          go_ret
          refine ⟨ret_bool ?_, n + nq, by simp⟩
          simp only [bne_iff_ne, ne_eq] at hne
          symm; apply decide_eq_false
          intro e; subst e; exact hne rfl
        · have hne : (xs[k] != ys[k]) = false := by assumption
          go_roundw
          case rel =>
            refine ⟨k + 1, by omega, by go_num, Lib.hid (getD_take_succ xs ys k hlt hky ht.out ?_), _, rfl⟩
            simpa [hlt, hky] using hne
          case measure => simp [intOf]; omega
      · have hlt' : xs.length ≤ k := by omega
        go_wp2
        go_ret
        refine ⟨ret_bool ?_, n, rfl⟩
        symm; apply decide_eq_true
        have e := ht.out
        rwa [List.take_of_length_le hlt', List.take_of_length_le (by have := HL.out; omega)] at e
  · have hlb : ((xs.length : Int) != (ys.length : Int)) = true := by simp; omega
    have hne : xs ≠ ys := fun e => hl (by rw [e])
    have HN := Lib.hid hne
    clear hl hne
    go_enter Try.func45, Try.ntmps45
    go_wp2
    go_ret
    exact ⟨ret_bool (by simp [HN.out]), 0, rfl⟩

/-- v is a slice of slices that reads as the lists css. -/
def Slls (w : World) (v : Value) (css : List (List Int)) : Prop :=
  ∃ (a : Option Addr) (cap : Nat), v = .slice a css.length cap ∧
    (css = [] ∨ ∃ b off, a = some ⟨b, off, none⟩ ∧ ∀ i, i < css.length → ∃ x, w.cell? ⟨b, off + i, none⟩ = some x ∧ Sl w x (css.getD i []))

theorem Ows.slls {B : Nat} {w : World} {v : Value} {css : List (List Int)} (h : Ows B w v css) : Slls w v css := by
  obtain ⟨vs, h1, h2, h3⟩ := h
  have h0 := h2
  obtain ⟨_, h⟩ := h2
  rcases h with ⟨rfl, h⟩ | ⟨g, cap, cur, rfl, _⟩
  · have e : css.length = 0 := by omega
    obtain rfl : css = [] := List.length_eq_zero_iff.1 e
    exact ⟨none, 0, rfl, .inl rfl⟩
  · refine ⟨_, cap, by rw [h1], .inr ⟨g, 0, rfl, fun i hi => ⟨vs.getD i undef, ?_, (h3 i hi).sl⟩⟩⟩
    rw [Nat.zero_add, World.ownsRow.cellAt h0 i (by omega)]
    simp [show i < vs.length by omega]

set_option maxHeartbeats 400000 in
theorem samelists_yes (v1 v2 : Value) (css : List (List Int)) (w : World) (h1 : Slls w v1 css) (h2 : Slls w v2 css) (hx : css.length ≤ 1000000) (hc : ∀ i, i < css.length → (css.getD i []).length ≤ 1000000) :
    Calls Try.prog 26 #[v1, v2] w fun e w' => e = .returned (.bool true) ∧ ∃ n, w' = w.drewN n := by
  obtain ⟨a, ca, rfl, h1⟩ := h1
  obtain ⟨b, cb, rfl, h2⟩ := h2
  have HC := Lib.hid hc
  have hlb : ((css.length : Int) != (css.length : Int)) = false := by simp
  have H1 := Lib.hid h1
  have H2 := Lib.hid h2
  clear hc h1 h2
  go_enter Try.func26, Try.ntmps26
  go_wp2
  go_loopw [5] (fun i wr => ∃ k : Nat, k ≤ css.length ∧ i = .int .i64 k ∧ ∃ n, wr = w.drewN n) (fun i _ => css.length - (intOf i).toNat)
  case atStart => exact ⟨0, Nat.zero_le _, rfl, 0, rfl⟩
  case round =>
    obtain ⟨k, hk, rfl, n, hn⟩ := hrel
    have hcw : ∀ (ad : Addr), wr.cell? ad = w.cell? ad := fun ad => by rw [hn]; rfl
    have hsw : ∀ (x : Value) (zs : List Int), Sl w x zs → Sl wr x zs := fun x zs h => by rw [hn]; exact h
    have HN := Lib.hid hn
    clear hn
    by_cases hlt : k < css.length
    · rcases H1.out with h1 | ⟨b1, o1, e1, c1⟩
      · simp [h1] at hlt
      rcases H2.out with h2 | ⟨b2, o2, e2, c2⟩
      · simp [h2] at hlt
      obtain ⟨x, g1, s1⟩ := c1 k hlt
      obtain ⟨y, g2, s2⟩ := c2 k hlt
      have hzl := HC.out k hlt
      rw [← hcw] at g1 g2
      have s1 := hsw _ _ s1
      have s2 := hsw _ _ s2
      clear hcw hsw
      generalize css.getD k [] = z at *
      have hcall : ∀ m, Calls Try.prog 45 #[x, y] (wr.drewN m) fun e w'' => e = .returned (.bool true) ∧ ∃ d, w'' = (wr.drewN m).drewN d := fun m =>
        (sameints_any x y _ _ (wr.drewN m) (s1.drewN m) (s2.drewN m) hzl hzl).mono fun e w'' ⟨he, hw⟩ => ⟨by rw [he]; simp, hw⟩
      have HCall := Lib.hid hcall
      clear hcall c1 c2 hzl
      obtain ⟨xa, xc, rfl, _⟩ := s1
      obtain ⟨ya, yc, rfl, _⟩ := s2
      subst e1
      subst e2
      go_wp2
      go_quiet ((go_at_call 45; exact Calls.quiet_of (HCall.out _)))
      go_wp2
      go_roundw
      case rel => exact ⟨k + 1, by omega, by go_num, n + nq, by rw [HN.out, World.drewN_drewN]⟩
      case measure => simp [intOf]; omega
    · have hlt' : css.length ≤ k := by omega
      clear hcw hsw
      go_wp2
      go_ret
      exact ⟨rfl, n, HN.out⟩
end Go.Proofs.Ytcnkegcogepimaa
