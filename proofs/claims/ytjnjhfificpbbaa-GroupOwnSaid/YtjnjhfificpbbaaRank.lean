/- perm.countLess, perm.Rank and the reference's Less, by their meaning. -/
import Derived.Test.YtjnjhfificpbbaaProg
import Derived.Test.YtjnjhfificpbbaaBase
import Derived.Test.YtjnjhfificpbbaaValid
import Derived.Test.YtjnjhfificpbbaaRankL
import Derived.Test.YtjnjhfificpbbaaPair
import Derived.Deep.QuietTactic
import Derived.BigQuiet
import Derived.Deep.Quiet
namespace Go.Proofs.Ytjnjhfificpbbaa
open Go.RowKit

theorem cntL_le (l : List Int) (b : Int) : cntL l b ≤ l.length := List.length_filter_le _ _
theorem cntL_snoc (l : List Int) (x b : Int) : cntL (l ++ [x]) b = cntL l b + if x < b then 1 else 0 := by
  unfold cntL
  rw [List.filter_append]
  by_cases h : x < b <;> simp [h]

theorem rankTo_le {p : List Int} (h7 : p.length ≤ 7) : ∀ k, k ≤ p.length → rankTo p k ≤ 5040 := fun k hk => by
  have h := rankTo_rk p k hk
  have hr : ∀ l : List Int, l.length ≤ 7 → rk l < fact l.length := fun l => by
    induction l with
    | nil => intro _; simp [rk, fact]
    | cons x l ih =>
      intro hl
      simp only [List.length_cons] at hl
      have h1 := ih (by omega)
      have h2 := cntL_le l x
      have h3 : cntL l x * fact l.length ≤ l.length * fact l.length := Nat.mul_le_mul_right _ h2
      simp only [rk, List.length_cons, fact, Nat.add_mul, Nat.one_mul]
      omega
  have h1 := hr p h7
  have h2 := fact_le p.length h7
  have h3 := fact_le (p.length - k) (by omega)
  have : rankTo p k * 1 ≤ rankTo p k * fact (p.length - k) := Nat.mul_le_mul_left _ h3.1
  omega

theorem sl_drop {w : World} {b off : Nat} {p : List Int} {cap k : Nat} (hc : ∀ i, i < p.length → w.cell? ⟨b, off + i, none⟩ = some (.int .i64 (p.getD i 0))) (hcap : p.length ≤ cap) (n m : Nat) (hn : n = p.length - k) :
    Sl w (.slice (if cap = k then some ⟨b, off, none⟩ else some ⟨b, off + k, none⟩) n m) (p.drop k) := by
  refine ⟨_, m, by rw [hn, List.length_drop], ?_⟩
  by_cases h0 : p.length ≤ k
  · exact .inl (List.drop_eq_nil_of_le h0)
  · refine .inr ⟨b, off + k, by rw [if_neg (by omega)], fun i hi => ?_⟩
    rw [List.length_drop] at hi
    rw [Nat.add_assoc, hc (k + i) (by omega)]
    simp

theorem Ow.cap {B : Nat} {w : World} {v : Value} {zs : List Int} (h : Ow B w v zs) : ∀ a n c, v = .slice a n c → n ≤ c := by
  intro a n c e
  obtain ⟨_, h⟩ := h
  rcases h with ⟨rfl, _⟩ | ⟨g, cap, cur, rfl, _, _, h4, _⟩
  · cases e; omega
  · cases e; exact h4

theorem lessL_drop (p q : List Int) (k : Nat) : k ≤ p.length → k ≤ q.length → p.take k = q.take k → lessL p q = lessL (p.drop k) (q.drop k) := by
  induction k generalizing p q with
  | zero => intro _ _ _; rfl
  | succ k ih =>
    intro h1 h2 h
    cases p with
    | nil => simp at h1
    | cons a p =>
      cases q with
      | nil => simp at h2
      | cons b q =>
        simp only [List.take_succ_cons, List.cons.injEq] at h
        simp only [List.length_cons] at h1 h2
        rw [lessL, if_pos h.1, List.drop_succ_cons, List.drop_succ_cons]
        exact ih p q (by omega) (by omega) h.2

set_option maxHeartbeats 400000 in
theorem less_any (v1 v2 : Value) (p q : List Int) (w : World) (h1 : Sl w v1 p) (h2 : Sl w v2 q) (hp : p.length ≤ 1000000) :
    Calls Try.prog 56 #[v1, v2] w fun e w' => e = .returned (.bool (lessL p q)) ∧ ∃ n, w' = w.drewN n := by
  obtain ⟨a, ca, rfl, h1⟩ := h1
  obtain ⟨b, cb, rfl, h2⟩ := h2
  go_enter Try.func56, Try.ntmps56
  go_wp2
  go_loopw [5] (fun i wr => ∃ k : Nat, k ≤ p.length ∧ k ≤ q.length ∧ i = .int .i64 k ∧ Hid (p.take k = q.take k) ∧ ∃ n, wr = w.drewN n) (fun i _ => p.length - (intOf i).toNat)
  case atStart => exact ⟨0, Nat.zero_le _, Nat.zero_le _, rfl, Lib.hid (by simp), 0, rfl⟩
  case round =>
    obtain ⟨k, hk, hkq, rfl, ht, n, rfl⟩ := hrel
    have hd := Lib.hid (lessL_drop p q k hk hkq ht.out)
    by_cases hlt : k < p.length
    · by_cases hlq : k < q.length
      · rcases h1 with h1 | ⟨b1, o1, rfl, c1⟩
        · simp [h1] at hlt
        rcases h2 with h2 | ⟨b2, o2, rfl, c2⟩
        · simp [h2] at hlq
        obtain ⟨x, hx0⟩ : ∃ x, x = p.getD k 0 := ⟨_, rfl⟩
        obtain ⟨y, hy0⟩ : ∃ y, y = q.getD k 0 := ⟨_, rfl⟩
        have g1 : w.cell? ⟨b1, o1 + k, none⟩ = some (.int .i64 x) := by rw [hx0]; exact c1 k hlt
        have g2 : w.cell? ⟨b2, o2 + k, none⟩ = some (.int .i64 y) := by rw [hy0]; exact c2 k hlq
        have hx1 : p.drop k = x :: p.drop (k + 1) := by rw [List.drop_eq_getElem_cons hlt, hx0]; simp [hlt]
        have hy1 : q.drop k = y :: q.drop (k + 1) := by rw [List.drop_eq_getElem_cons hlq, hy0]; simp [hlq]
        have hl : lessL p q = if x = y then lessL (p.drop (k + 1)) (q.drop (k + 1)) else decide (x < y) := by rw [hd.out, hx1, hy1, lessL]
        have HL := Lib.hid hl
        have HX := Lib.hid hx0
        have HY := Lib.hid hy0
        clear c1 c2 hx0 hy0 hx1 hy1 hl
        by_cases hxy : x = y
        · have hb : (x != y) = false := by simp [hxy]
          have ht2 : Hid (p.take (k + 1) = q.take (k + 1)) := Lib.hid (by
            rw [List.take_succ_eq_append_getElem hlt, List.take_succ_eq_append_getElem hlq, ht.out]
            have e1 := HX.out
            have e2 := HY.out
            simp [hlt] at e1
            simp [hlq] at e2
            rw [← e1, ← e2, hxy])
          clear hxy
          go_wp2
          go_quiet (fail)
          go_wp2
          go_roundw
          case rel => exact ⟨k + 1, by omega, by omega, by go_num, ht2, n + nq, by simp⟩
          case measure => simp [intOf]; omega
        · have hb : (x != y) = true := by simp [hxy]
          have hf : Hid (lessL p q = decide (x < y)) := Lib.hid (by rw [HL.out, if_neg hxy])
          clear hxy
          go_wp2
          go_quiet (fail)
          go_wp2
          obtain ⟨n2, hn2⟩ : ∃ n2, n2 = n + nq := ⟨_, rfl⟩
          go_quiet (fail)
          go_wp2
          go_ret
          exact ⟨ret_bool hf.out.symm, _, by simp; rfl⟩
      · have hf : Hid (lessL p q = decide (p.length < q.length)) := Lib.hid (by
          rw [hd.out, List.drop_eq_nil_of_le (show q.length ≤ k by omega)]
          have : lessL (p.drop k) [] = false := by cases p.drop k <;> rfl
          rw [this]; symm; apply decide_eq_false; omega)
        have hlq' : q.length ≤ k := by omega
        go_wp2
        go_ret
        exact ⟨ret_bool hf.out.symm, n, rfl⟩
    · have hf : Hid (lessL p q = decide (p.length < q.length)) := Lib.hid (by
        rw [hd.out, List.drop_eq_nil_of_le (show p.length ≤ k by omega)]
        by_cases h : k < q.length
        · rw [List.drop_eq_getElem_cons h, lessL]
          symm; apply decide_eq_true; omega
        · rw [List.drop_eq_nil_of_le (show q.length ≤ k by omega), lessL]
          symm; apply decide_eq_false; omega)
      have hlt' : p.length ≤ k := by omega
      go_wp2
      go_ret
      exact ⟨ret_bool hf.out.symm, n, rfl⟩

end Go.Proofs.Ytjnjhfificpbbaa
