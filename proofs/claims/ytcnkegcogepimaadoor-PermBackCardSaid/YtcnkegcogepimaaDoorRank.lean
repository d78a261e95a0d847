/- perm.countLess, perm.Rank and the reference's Less, by their meaning. -/
import Derived.Test.YtcnkegcogepimaaDoorProg
import Derived.Test.YtcnkegcogepimaaDoorBase
import Derived.Test.YtcnkegcogepimaaDoorValid
import Derived.Test.YtcnkegcogepimaaDoorRankL
import Derived.Test.YtcnkegcogepimaaDoorPair
import Derived.Deep.QuietTactic
import Derived.BigQuiet
import Derived.Deep.Quiet
namespace Go.Proofs.YtcnkegcogepimaaDoor
open Go.RowKit

theorem cntL_le (l : List Int) (b : Int) : cntL l b ≤ l.length := List.length_filter_le _ _
theorem cntL_snoc (l : List Int) (x b : Int) : cntL (l ++ [x]) b = cntL l b + if x < b then 1 else 0 := by
  unfold cntL
  rw [List.filter_append]
  by_cases h : x < b <;> simp [h]

set_option maxHeartbeats 400000 in
theorem count_any (v1 : Value) (l : List Int) (b : Int) (w : World) (h1 : Sl w v1 l) (hl : l.length ≤ 1000000) :
    Calls Tryd.prog 28 #[v1, .int .i64 b] w fun e w' => e = .returned (.int .i64 (cntL l b)) ∧ w' = w := by
  obtain ⟨a, ca, rfl, h1⟩ := h1
  go_enter Tryd.func28, Tryd.ntmps28
  go_wp2
  go_loop [5, 10] (fun c i => ∃ k : Nat, k ≤ l.length ∧ i = .int .i64 k ∧ c = .int .i64 (cntL (l.take k) b)) (fun _ i => l.length - (intOf i).toNat)
  case atStart => exact ⟨0, Nat.zero_le _, rfl, rfl⟩
  case round =>
    obtain ⟨k, hk, rfl, rfl⟩ := hrel
    by_cases hlt : k < l.length
    · rcases h1 with h1 | ⟨b1, o1, rfl, c1⟩
      · simp [h1] at hlt
      obtain ⟨x, hx0⟩ : ∃ x, x = l.getD k 0 := ⟨_, rfl⟩
      have g1 : w.cell? ⟨b1, o1 + k, none⟩ = some (.int .i64 x) := by rw [hx0]; exact c1 k hlt
      have hs : cntL (l.take (k + 1)) b = cntL (l.take k) b + if x < b then 1 else 0 := by
        rw [List.take_succ_eq_append_getElem hlt, cntL_snoc, hx0]
        simp [hlt]
      have hle := cntL_le (l.take k) b
      have hle2 : (l.take k).length ≤ k := List.length_take_le _ _
      have HS := Lib.hid hs
      generalize cntL (l.take k) b = c at *
      clear c1 hx0 hs
      by_cases hxb : x < b
      · go_wp2
        go_round
        case rel => exact ⟨k + 1, by omega, by go_num, by rw [HS.out, if_pos hxb]; go_num⟩
        case measure => simp [intOf]; omega
      · go_wp2
        go_round
        case rel => exact ⟨k + 1, by omega, by go_num, by rw [HS.out, if_neg hxb]; rfl⟩
        case measure => simp [intOf]; omega
    · have hlt' : l.length ≤ k := by omega
      have e : cntL (l.take k) b = cntL l b := by rw [List.take_of_length_le hlt']
      have HE := Lib.hid e
      clear e
      go_wp2
      go_ret
      exact ⟨ret_int (by rw [← HE.out]), rfl⟩

theorem rankTo_le {p : List Int} (h7 : p.length ≤ 7) : ∀ k, k ≤ p.length → rankTo p k ≤ 5040 := fun k hk => by
  have h := rankTo_rk p k hk
  have hr : ∀ l : List Int, l.length ≤ 7 → rk l < fact l.length := fun l => by
    induction l with
    | nil => intro _; simp [rk, fact]
    | cons x l ih =>
      intro hl
      simp only [List.length_cons] at hl
      have h1 := ih (by omega)
      have h2 := cntL_le l x
      have h3 : cntL l x * fact l.length ≤ l.length * fact l.length := Nat.mul_le_mul_right _ h2
      simp only [rk, List.length_cons, fact, Nat.add_mul, Nat.one_mul]
      omega
  have h1 := hr p h7
  have h2 := fact_le p.length h7
  have h3 := fact_le (p.length - k) (by omega)
  have : rankTo p k * 1 ≤ rankTo p k * fact (p.length - k) := Nat.mul_le_mul_left _ h3.1
  omega

theorem sl_drop {w : World} {b off : Nat} {p : List Int} {cap k : Nat} (hc : ∀ i, i < p.length → w.cell? ⟨b, off + i, none⟩ = some (.int .i64 (p.getD i 0))) (hcap : p.length ≤ cap) (n m : Nat) (hn : n = p.length - k) :
    Sl w (.slice (if cap = k then some ⟨b, off, none⟩ else some ⟨b, off + k, none⟩) n m) (p.drop k) := by
  refine ⟨_, m, by rw [hn, List.length_drop], ?_⟩
  by_cases h0 : p.length ≤ k
  · exact .inl (List.drop_eq_nil_of_le h0)
  · refine .inr ⟨b, off + k, by rw [if_neg (by omega)], fun i hi => ?_⟩
    rw [List.length_drop] at hi
    rw [Nat.add_assoc, hc (k + i) (by omega)]
    simp

set_option maxHeartbeats 1000000 in
theorem Rank_ok (v1 : Value) (p : List Int) (w : World) (h1 : Sl w v1 p) (hv : validL p = true) (hcap : ∀ a n c, v1 = .slice a n c → n ≤ c) :
    Calls Tryd.prog 11 #[v1] w fun e w' => e = .returned (.tuple #[.int .i64 (rankL p), .int .i64 0]) ∧ Below w.heap.size w w' := by
  have H1 := Lib.hid h1
  obtain ⟨a, ca, rfl, h1⟩ := h1
  have hcp := hcap _ _ _ rfl
  clear hcap
  have V := Lib.hid hv
  have hp7 := ((validL_iff p).1 hv).2.1
  have hp1 := ((validL_iff p).1 hv).1
  have hp := valid_small' hv
  rcases h1 with h1 | ⟨b1, o1, rfl, c1⟩
  · simp [h1] at hp1
  have hb1 : b1 < w.heap.size := World.block_lt_of_cell? w _ (c1 0 (by omega))
  have C1 := Lib.hid c1
  clear hv c1
  go_enter Tryd.func11, Tryd.ntmps11
  go_wp2_with fail
  refine (valid_any _ p _ H1.out hp).mono ?_
  rintro e w1 ⟨rfl, b0⟩
  rw [V.out]
  go_wp2
  go_loopw [4, 11] (fun r i wr => ∃ k : Nat, k ≤ p.length ∧ i = .int .i64 k ∧ r = .int .i64 (rankTo p k) ∧ Below w.heap.size w wr) (fun _ i _ => p.length - (intOf i).toNat)
  case atStart => exact ⟨0, Nat.zero_le _, rfl, rfl, b0⟩
  case round =>
    clear b0
    obtain ⟨k, hk, rfl, rfl, hb⟩ := hrel
    by_cases hlt : k < p.length
    · obtain ⟨x, hx0⟩ : ∃ x, x = p.getD k 0 := ⟨_, rfl⟩
      have g1 : wr.cell? ⟨b1, o1 + k, none⟩ = some (.int .i64 x) := by rw [hx0]; exact (hb.cell (p := ⟨b1, o1 + k, none⟩) hb1).trans (C1.out k hlt)
      have hR : rankTo p (k + 1) = rankTo p k * (p.length - k) + cntL (p.drop (k + 1)) x := by rw [rankTo, hx0]
      have hRl := rankTo_le hp7 (k + 1) hlt
      have hcl : ∀ i, i < p.length → wr.cell? ⟨b1, o1 + i, none⟩ = some (.int .i64 (p.getD i 0)) := fun i hi => (hb.cell (p := ⟨b1, o1 + i, none⟩) hb1).trans (C1.out i hi)
      have hsl := sl_drop (k := k + 1) hcl hcp (p.length - (k + 1)) (ca - (k + 1)) rfl
      obtain ⟨A, hA⟩ : ∃ A, (if ca = k + 1 then some (⟨b1, o1, none⟩ : Addr) else some ⟨b1, o1 + (k + 1), none⟩) = A := ⟨_, rfl⟩
      rw [hA] at hsl
      have HSl := Lib.hid hsl
      obtain ⟨R, hR0⟩ : ∃ R, R = rankTo p k := ⟨_, rfl⟩
      obtain ⟨C, hC0⟩ : ∃ C, C = cntL (p.drop (k + 1)) x := ⟨_, rfl⟩
      rw [← hR0, ← hC0] at hR
      rw [← hR0]
      have q1 : ((R : Int) * ((p.length : Int) - (k : Int))) = ((R * (p.length - k) : Nat) : Int) := by rw [Int.natCast_mul]; congr 1; omega
      obtain ⟨M, hM⟩ : ∃ M, M = R * (p.length - k) := ⟨_, rfl⟩
      rw [← hM] at q1 hR
      have hM5 : M + C ≤ 5040 := by omega
      have hq0 : 0 ≤ (R : Int) * ((p.length : Int) - (k : Int)) := by rw [q1]; omega
      have hq1 : (R : Int) * ((p.length : Int) - (k : Int)) ≤ 5040 := by rw [q1]; omega
      have HR := Lib.hid hR
      have HC0 := Lib.hid hC0
      have hwr : IntKind.i64.wrap ((k : Int) + 1) = (k : Int) + 1 := by rw [IntKind.wrap_i64]; omega
      have hp0 : (0 : Int) ≤ (k : Int) + 1 := by omega
      have hp1' : (k : Int) + 1 ≤ (p.length : Int) := by omega
      have hp2 : ((k : Int) + 1).toNat = k + 1 := by omega
      have w2 : IntKind.i64.wrap ((p.length : Int) - (k : Int)) = (p.length : Int) - (k : Int) := by rw [IntKind.wrap_i64]; omega
      have w3 : IntKind.i64.wrap ((M : Int)) = (M : Int) := by rw [IntKind.wrap_i64]; omega
      have w4 : IntKind.i64.wrap ((M : Int) + (C : Int)) = (M : Int) + (C : Int) := by rw [IntKind.wrap_i64]; omega
      have hdl : p.length ≤ ca := hcp
      clear hx0 hR hcl hsl hM hR0 hC0 hRl hq0 hq1
      have hcnt : ∀ m, Calls Tryd.prog 28 #[.slice A (p.length - (k + 1)) (ca - (k + 1)), .int .i64 x] (wr.drewN m) fun e w'' => e = .returned (.int .i64 (C : Int)) ∧ w'' = wr.drewN m := fun m =>
        (count_any _ (p.drop (k + 1)) x (wr.drewN m) HSl.out (by rw [List.length_drop]; omega)).mono fun e w'' ⟨he, hw⟩ => ⟨by rw [he, HC0.out], hw⟩
      have HCnt := Lib.hid hcnt
      clear hcnt
      go_wp2
      go_quiet ((go_at_call 28; exact Calls.quiet_of_same (HCnt.out _)))
      have hb4 := below_drewN' hb nq
      go_wp2
      go_roundw
      case rel => exact ⟨k + 1, by omega, by go_num, by rw [HR.out]; go_num, hb4⟩
      case measure => simp [intOf]; omega
    · have hke : k = p.length := by omega
      have hlt' : p.length ≤ k := by omega
      have e : rankTo p k = rankL p := by rw [hke]; rfl
      have HE := Lib.hid e
      clear hke e
      go_wp2
      go_ret2
      exact ⟨by rw [← HE.out]; rfl, hb⟩

theorem Ow.cap {B : Nat} {w : World} {v : Value} {zs : List Int} (h : Ow B w v zs) : ∀ a n c, v = .slice a n c → n ≤ c := by
  intro a n c e
  obtain ⟨_, h⟩ := h
  rcases h with ⟨rfl, _⟩ | ⟨g, cap, cur, rfl, _, _, h4, _⟩
  · cases e; omega
  · cases e; exact h4

theorem lessL_drop (p q : List Int) (k : Nat) : k ≤ p.length → k ≤ q.length → p.take k = q.take k → lessL p q = lessL (p.drop k) (q.drop k) := by
  induction k generalizing p q with
  | zero => intro _ _ _; rfl
  | succ k ih =>
    intro h1 h2 h
    cases p with
    | nil => simp at h1
    | cons a p =>
      cases q with
      | nil => simp at h2
      | cons b q =>
        simp only [List.take_succ_cons, List.cons.injEq] at h
        simp only [List.length_cons] at h1 h2
        rw [lessL, if_pos h.1, List.drop_succ_cons, List.drop_succ_cons]
        exact ih p q (by omega) (by omega) h.2

end Go.Proofs.YtcnkegcogepimaaDoor
