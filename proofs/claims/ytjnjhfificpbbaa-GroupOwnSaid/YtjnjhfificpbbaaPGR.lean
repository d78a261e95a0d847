/- (*closed).perms. | areGenerators, isRising and closedOf; Close. | slices.Compare at permutations; isRising. | closedOf and Close. | Derived. -/
import Derived.Test.YtjnjhfificpbbaaSEQ
import Derived.Test.YtjnjhfificpbbaaUTG
import Derived.Test.YtjnjhfificpbbaaValid
import Derived.Test.YtjnjhfificpbbaaSRT
import Derived.Deep.QuietTactic
import Derived.BigQuiet
namespace Go.Proofs.Ytjnjhfificpbbaa
open Go Go.RowKit

/-- a call by its contract -/
theorem wp_call_any {P : Program} {o : Oper} {a : Act} {w : World} {K : Act → World → Prop} {Q : Exit → Act → World → Prop} (f : FuncId) {fn : Func} (hf : P.funcs[f]? = some fn) (hnm : decide (fn.name = "runtime.NumGoroutine") = false) (hbd : fn.body.isNone = false)
    (xs : Array Operand) (ts : Array TypeId) (ho : o.op = .call { callee := .value (.func f), args := xs, argTypes := ts }) (args : Array Value) (hargs : xs.toList.map a.eval = args.toList)
    (hc : Calls P f args w fun e w' => ∃ v, e = .returned v ∧ K (a.put o.dst v) w') : o.wp P a w K Q := by
  have hxs : xs.map a.eval = args := Array.toList_inj.1 (by rw [Array.toList_map, hargs])
  have e : (execOp a.eval o).run P w = .ok (.enter f (xs.map a.eval)) w := by
    have h1 : ¬ fn.name = "runtime.NumGoroutine" := of_decide_eq_false hnm
    have h2 : ¬ fn.body = none := fun e => by rw [e] at hbd; cases hbd
    simp [execOp, ho, resolve, invoke, Act.eval, Deferred.ofValue, callFunc, hf, h1, h2]
  unfold Oper.wp
  rw [e, Oper.upon_enter, hxs]
  refine hc.mono fun e w' ⟨v, he, hK⟩ => ?_
  subst he; exact hK

theorem Owp.mono {B B' : Nat} {w : World} {v : Value} {ps : List (List Int)} (h : Owp B w v ps) (hB : B' ≤ B) : Owp B' w v ps := by
  obtain ⟨vs, h1, h2, h3⟩ := h
  refine ⟨vs, h1, ⟨h2.1, ?_⟩, fun i hi => (h3 i hi).mono hB⟩
  rcases h2.2 with h | ⟨g, cap, cur, e1, e2, e3⟩
  · exact .inl h
  · exact .inr ⟨g, cap, cur, e1, Nat.le_trans hB e2, e3⟩
/-- what perms hands back: the elements of the group, ascending, as permutations of n points -/
def PermsOf (B : Nat) (n : Nat) (L : List (List Int)) (x : Value) (w : World) : Prop := ∃ L', L'.Perm L ∧ Asc L' ∧ Owp B w x (L'.map (List.take n))

set_option maxRecDepth 100000 in
set_option maxHeartbeats 2000000 in
theorem perms_any {B c m : Nat} {n : Nat} {vg vl : Value} {G L : List (List Int)} {w : World} (h : Clo B w c m n vg vl G L) (g : Grp G L) (hn : n ≤ 7) :
    Calls Try.prog 52 #[.pointer (some ⟨c, 0, none⟩)] w fun e w' => ∃ x, e = .returned x ∧ PermsOf w.heap.size n L x w' ∧ Below w.heap.size w w' := by
  have H := Lib.hid h
  have HG := Lib.hid g
  have h0 : 0 < L.length := List.length_pos_of_mem g.one
  have hlen : L.length ≤ 900000 := by have := g.len; omega
  have hcell := Lib.hid h.cells
  obtain ⟨ga, gc, rfl⟩ := h.rl.form h0
  have H0 := Lib.hid h0
  have HL := Lib.hid hlen
  clear h g h0 hlen
  go_enter Try.func52, Try.ntmps52
  go_wp2_with fail
  refine wp_region_held_then (S := fun w' => Below w.heap.size w w') 11 (by kernel_rfl) (by kernel_rfl) ?_
  have hS : Below w.heap.size w w.drew := below_drewN' (Below.refl _ _) 1
  simp only [List.take_succ_cons, List.take_zero, List.drop_succ_cons, List.drop_zero]
  refine held_take (i := 0) (v := .pointer (some ⟨c, 0, none⟩)) rfl rfl (by kernel_rfl) (by kernel_rfl) (by kernel_rfl) (fun w' h => by go_simp) hS ?_
  refine held_take (i := 1) (v := .pointer (some ⟨c, 0, none⟩)) rfl rfl (by kernel_rfl) (by kernel_rfl) (by kernel_rfl) (fun w' h => by go_simp) hS ?_
  refine held_take (i := 2) (v := .pointer (some ⟨c, 2, none⟩)) rfl rfl (by kernel_rfl) (by kernel_rfl) (by kernel_rfl) (fun w' h => by go_simp) hS ?_
  refine held_take (i := 3) (v := .slice (some ⟨ga, 0, none⟩) L.length gc) rfl rfl (by kernel_rfl) (by kernel_rfl) (by kernel_rfl) (fun w' h => ?_) hS ?_
  · have h1 := (hcell.out.below h).cell 2
    go_simp
  refine held_take (i := 5) (v := .pointer (some ⟨c, 0, none⟩)) rfl rfl (by kernel_rfl) (by kernel_rfl) (by kernel_rfl) (fun w' h => by go_simp) hS ?_
  refine held_take (i := 6) (v := .pointer (some ⟨c, 0, none⟩)) rfl rfl (by kernel_rfl) (by kernel_rfl) (by kernel_rfl) (fun w' h => by go_simp) hS ?_
  refine held_take (i := 7) (v := .pointer (some ⟨c, 0, none⟩)) rfl rfl (by kernel_rfl) (by kernel_rfl) (by kernel_rfl) (fun w' h => by go_simp) hS ?_
  refine held_take (i := 8) (v := .int .i64 n) rfl rfl (by kernel_rfl) (by kernel_rfl) (by kernel_rfl) (fun w' h => ?_) hS ?_
  · have h1 := (hcell.out.below h).cell 0
    go_simp
  simp [Act.put]
  refine held_only (i := 4) rfl rfl (by kernel_rfl) (wp_call_any 64 Try.func64 (by kernel_rfl) rfl _ _ rfl #[.slice (some ⟨ga, 0, none⟩) L.length gc] rfl ((sorted_any (H.out.below hS).rl HG.out.els H0.out HL.out).mono ?_))
  rintro e w1 ⟨v1, L', rfl, hp, ha, hO1, hb1⟩
  have hS1 : Below w.heap.size w w1 := hS.trans (hb1.mono hS.size)
  refine ⟨_, rfl, hS1, ?_⟩
  have hE' : ∀ x ∈ L', El x := fun x hx => HG.out.els x (hp.mem_iff.1 hx)
  have HO1 := Lib.hid hO1
  have HP := Lib.hid hp
  have HA := Lib.hid ha
  have HE := Lib.hid hE'
  have HB1 := Lib.hid hS1
  have hl' : L'.length ≤ 900000 := by rw [hp.length_eq]; exact HL.out
  obtain ⟨g1, c1, rfl⟩ := hO1.form (by rw [hp.length_eq]; exact H0.out)
  clear hO1 hp ha hE' hb1
  simp [Act.put]
  refine held_only (i := 9) rfl rfl (by kernel_rfl) (wp_call_any 63 Try.func63 (by kernel_rfl) rfl _ _ rfl #[.slice (some ⟨g1, 0, none⟩) L'.length c1, .int .i64 n] rfl ((unpackAll_any _ _ L' n w1 HO1.out (fun x hx => (HE.out x hx).e7) hn hl').mono ?_))
  rintro e w2 ⟨x, rfl, hx, hb2⟩
  have hS2 : Below w.heap.size w w2 := hS1.trans (hb2.mono hS1.size)
  refine ⟨_, rfl, hS2, ?_⟩
  have HX := Lib.hid hx
  have HB2 := Lib.hid hS2
  have HZ := Lib.hid hS1.size
  clear hx hb2
  simp [Act.put]
  refine held_take (i := 10) (v := x) rfl rfl (by kernel_rfl) (by kernel_rfl) (by kernel_rfl) (fun w' h => by go_simp) hS2 ?_
  refine held_done (by kernel_rfl) ?_
  clear hS hS1 hS2
  simp [Act.put]
  go_wp2_with fail
  go_ret
  exact ⟨x, rfl, ⟨L', HP.out, HA.out, HX.out.mono HZ.out⟩, HB2.out⟩
end Go.Proofs.Ytjnjhfificpbbaa
namespace Go.Proofs.Ytjnjhfificpbbaa
open Go Go.RowKit

/-- a list of 1 to 5040 permutations of the same number of points -/
def GenP (ps : List (List Int)) : Prop := 1 ≤ ps.length ∧ ps.length ≤ 5040 ∧ ∀ i, i < ps.length → validL (ps.getD i []) = true ∧ (ps.getD i []).length = (ps.getD 0 []).length
def genTo (ps : List (List Int)) (k : Nat) : Prop := ∀ i, i < k → validL (ps.getD i []) = true ∧ (ps.getD i []).length = (ps.getD 0 []).length
theorem genTo.succ {ps : List (List Int)} {k : Nat} (h : genTo ps k) (hk : validL (ps.getD k []) = true) (hl : (ps.getD k []).length = (ps.getD 0 []).length) : genTo ps (k + 1) := fun i hi => by
  by_cases e : i = k
  · subst e; exact ⟨hk, hl⟩
  · exact h i (by omega)
/-- a Boolean that says whether P holds -/
def Says (b : Bool) (P : Prop) : Prop := b = true ↔ P
theorem Says.yes {P : Prop} (h : P) : Says true P := ⟨fun _ => h, fun _ => rfl⟩
theorem Says.no {P : Prop} (h : ¬ P) : Says false P := ⟨fun e => (by cases e), fun hp => absurd hp h⟩

set_option maxRecDepth 100000 in
set_option maxHeartbeats 2000000 in
theorem areGens_any (v : Value) (ps : List (List Int)) (w : World) (h : Sps w v ps) (hx : ∀ i, i < ps.length → (ps.getD i []).length ≤ 1000000) :
    Calls Try.prog 50 #[v] w fun e w' => ∃ r, e = .returned (.bool r) ∧ Says r (GenP ps) ∧ Below w.heap.size w w' := by
  obtain ⟨a, cap, rfl, h⟩ := h
  obtain ⟨n, hn⟩ : ∃ n, n = ps.length := ⟨_, rfl⟩
  have HN := Lib.hid hn
  rw [← hn]
  by_cases h1 : n < 1
  · have HS := Lib.hid (show Says false (GenP ps) from Says.no fun hp => by have := hp.1; omega)
    have d1 : decide ((n : Int) < 1) = true := decide_eq_true (by omega)
    clear h hn
    go_enter Try.func50, Try.ntmps50
    go_wp2_with fail
    go_ret
    exact ⟨false, rfl, HS.out, Below.refl _ _⟩
  by_cases h2 : 5040 < n
  · have HS := Lib.hid (show Says false (GenP ps) from Says.no fun hp => by have := hp.2.1; omega)
    have d1 : decide ((n : Int) < 1) = false := decide_eq_false (by omega)
    have d2 : decide (5040 < (n : Int)) = true := decide_eq_true (by omega)
    clear h hn
    go_enter Try.func50, Try.ntmps50
    go_wp2_with fail
    go_ret
    exact ⟨false, rfl, HS.out, Below.refl _ _⟩
  rcases h with h | ⟨b, off, rfl, h⟩
  · rw [h] at hn; simp at hn; omega
  have HC := Lib.hid h
  have HX := Lib.hid hx
  obtain ⟨x0, g0, s0⟩ := h 0 (by omega)
  obtain ⟨xa, xc, rfl, _⟩ := s0
  rw [Nat.add_zero] at g0
  have hb0 : b < w.heap.size := World.block_lt_of_cell? w _ g0
  obtain ⟨n0, hn0⟩ : ∃ n0, n0 = (ps.getD 0 []).length := ⟨_, rfl⟩
  rw [← hn0] at g0
  have HN0 := Lib.hid hn0
  have G0 := Lib.hid g0
  have d1 : decide ((n : Int) < 1) = false := decide_eq_false (by omega)
  have d2 : decide (5040 < (n : Int)) = false := decide_eq_false (by omega)
  have HLO := Lib.hid (show 1 ≤ n ∧ n ≤ 5040 by omega)
  have hn5 : n ≤ 5040 := by omega
  clear h hx g0 hn0 hn
  go_enter Try.func50, Try.ntmps50
  go_wp2_with fail
  clear d1 d2 h1 h2
  go_loopw [15] (fun i wr => ∃ k : Nat, i = .int .i64 k ∧ k ≤ n ∧ Hid (genTo ps k) ∧ Hid (Below w.heap.size w wr)) (fun i _ => n - (intOf i).toNat)
  case atStart => exact ⟨0, rfl, Nat.zero_le _, Lib.hid (fun i hi => by omega), Lib.hid (Below.refl _ _)⟩
  case round =>
    obtain ⟨k, rfl, hk, HT, HB⟩ := hrel
    by_cases hlt : k < n
    · obtain ⟨x, g1, s1⟩ := HC.out k (by rw [← HN.out]; exact hlt)
      have g2 : wr.cell? ⟨b, off + k, none⟩ = some x := (HB.out.cell (p := ⟨b, off + k, none⟩) hb0).trans g1
      have s2 := s1.below HB.out
      have hpx := HX.out k (by rw [← HN.out]; exact hlt)
      obtain ⟨p, hp⟩ : ∃ p, p = ps.getD k [] := ⟨_, rfl⟩
      rw [← hp] at s2 hpx
      have HP := Lib.hid hp
      have HS := Lib.hid s2
      obtain ⟨ya, yc, rfl, _⟩ := s2
      have HLt := Lib.hid hlt
      clear g1 s1 hp
      go_wp2_with fail
      refine (valid_any _ p _ HS.out hpx).mono ?_
      rintro r w2 ⟨rfl, hb2⟩
      have HB2 := Lib.hid (HB.out.trans (hb2.mono HB.out.size))
      have c0 : w2.cell? ⟨b, off, none⟩ = some (.slice xa n0 xc) := (HB2.out.cell (p := ⟨b, off, none⟩) hb0).trans G0.out
      clear hb2 g2
      cases hv : validL p with
      | false =>
        have HSy := Lib.hid (show Says false (GenP ps) from Says.no fun hq => by
          have := (hq.2.2 k (by rw [← HN.out]; exact HLt.out)).1
          rw [← HP.out, hv] at this; cases this)
        clear hv
        go_wp2_with fail
        go_ret
        exact ⟨false, rfl, HSy.out, HB2.out⟩
      | true =>
        by_cases hl : p.length = n0
        · have D : ((p.length : Int) != (n0 : Int)) = false := by rw [hl]; simp
          have HT2 := Lib.hid (HT.out.succ (by rw [← HP.out]; exact hv) (by rw [← HP.out, ← HN0.out]; exact hl))
          clear hv hl
          go_wp2_with fail
          go_roundw
          case rel => exact ⟨k + 1, by go_num, by omega, HT2, HB2⟩
          case measure => simp [intOf]; omega
        · have D : ((p.length : Int) != (n0 : Int)) = true := by simp; omega
          have HSy := Lib.hid (show Says false (GenP ps) from Says.no fun hq => by
            have := (hq.2.2 k (by rw [← HN.out]; exact HLt.out)).2
            rw [← HP.out, ← HN0.out] at this; exact hl this)
          clear hv hl
          go_wp2_with fail
          go_ret
          exact ⟨false, rfl, HSy.out, HB2.out⟩
    · have HSy := Lib.hid (show Says true (GenP ps) from Says.yes ⟨by rw [← HN.out]; exact HLO.out.1, by rw [← HN.out]; exact HLO.out.2, fun i hi => HT.out i (by rw [← HN.out] at hi; omega)⟩)
      go_wp2_with fail
      go_ret
      exact ⟨true, rfl, HSy.out, HB.out⟩
end Go.Proofs.Ytjnjhfificpbbaa
namespace Go.Proofs.Ytjnjhfificpbbaa
open Go Go.RowKit

theorem isNaNi (x : Int) (w : World) : Calls Try.prog 105 #[.int .i64 x] w fun e w' => e = .returned (.bool false) ∧ w' = w := by
  go_enter Try.func105, Try.ntmps105
  go_wp2
  go_ret
  exact ⟨by simp, rfl⟩
set_option maxHeartbeats 1000000 in
theorem cmpInt (x y : Int) (w : World) : Calls Try.prog 100 #[.int .i64 x, .int .i64 y] w fun e w' => e = .returned (.int .i64 (if x < y then -1 else if y < x then 1 else 0)) ∧ w' = w := by
  by_cases h1 : x < y
  · rw [if_pos h1]
    go_enter Try.func100, Try.ntmps100
    go_wp2_with (go_at_call 105; refine (isNaNi _ _).mono ?_; rintro r w1 ⟨rfl, rfl⟩)
    go_ret
    exact ⟨rfl, rfl⟩
  · rw [if_neg h1]
    by_cases h2 : y < x
    · rw [if_pos h2]
      go_enter Try.func100, Try.ntmps100
      go_wp2_with (go_at_call 105; refine (isNaNi _ _).mono ?_; rintro r w1 ⟨rfl, rfl⟩)
      go_ret
      exact ⟨rfl, rfl⟩
    · rw [if_neg h2]
      go_enter Try.func100, Try.ntmps100
      go_wp2_with (go_at_call 105; refine (isNaNi _ _).mono ?_; rintro r w1 ⟨rfl, rfl⟩)
      go_ret
      exact ⟨rfl, rfl⟩

set_option maxHeartbeats 1000000 in
theorem cmpPerm (u v : Value) (a b : List Int) (w : World) (h1 : Sl w u a) (h2 : Sl w v b) (hn : 1 ≤ a.length) (hm : a.length ≤ 7) (hl : b.length = a.length) :
    Calls Try.prog 93 #[u, v] w fun e w' => e = .returned (.int .i64 (cmpLex a b)) ∧ w' = w := by
  obtain ⟨a1, c1, rfl, h1⟩ := h1
  obtain ⟨a2, c2, rfl, h2⟩ := h2
  rcases h1 with h1 | ⟨b1, o1, rfl, h1⟩
  · rw [h1] at hn; simp at hn
  rcases h2 with h2 | ⟨b2, o2, rfl, h2⟩
  · rw [h2] at hl; simp at hl; omega
  have H1 := Lib.hid h1
  have H2 := Lib.hid h2
  obtain ⟨n, hn0⟩ : ∃ n, n = a.length := ⟨_, rfl⟩
  rw [hl, ← hn0]
  rw [← hn0] at hn hm hl
  have HL := Lib.hid hl
  have HN := Lib.hid hn0
  clear h1 h2 hl hn0
  go_enter Try.func93, Try.ntmps93
  go_wp2
  go_loopw [11] (fun i wr => ∃ k : Nat, i = .int .i64 k ∧ k ≤ n ∧ wr = w ∧ Hid (∀ t, t < k → a.getD t 0 = b.getD t 0)) (fun i _ => n - (intOf i).toNat)
  case atStart => exact ⟨0, rfl, by omega, rfl, Lib.hid (fun t ht => by omega)⟩
  case round =>
    obtain ⟨k, rfl, hk, rfl, HE⟩ := hrel
    by_cases hlt : k < n
    · have g1 := H1.out k (by rw [← HN.out]; exact hlt)
      have g2 := H2.out k (by rw [HL.out]; exact hlt)
      obtain ⟨x, hx⟩ : ∃ x, x = a.getD k 0 := ⟨_, rfl⟩
      obtain ⟨y, hy⟩ : ∃ y, y = b.getD k 0 := ⟨_, rfl⟩
      rw [← hx] at g1
      rw [← hy] at g2
      have HX := Lib.hid hx
      have HY := Lib.hid hy
      clear hx hy
      by_cases hxy : x = y
      · have hc0 : (if x < y then (-1 : Int) else if y < x then 1 else 0) = 0 := by rw [if_neg (by omega), if_neg (by omega)]
        have HN2 := Lib.hid (show ∀ t, t < k + 1 → a.getD t 0 = b.getD t 0 from fun t ht => by
          by_cases e : t = k
          · rw [e, ← HX.out, ← HY.out]; exact hxy
          · exact HE.out t (by omega))
        clear hxy
        go_wp2_with (go_at_call 100; refine (cmpInt x y _).mono ?_; rintro r w1 ⟨rfl, rfl⟩; rw [hc0])
        go_roundw
        case rel => exact ⟨k + 1, by go_num, by omega, by first | rfl | trivial, HN2⟩
        case measure => simp [intOf]; omega
      · have hv := cmpLex_at a b k HE.out (by rw [← HN.out]; exact hlt) (by rw [HL.out]; exact hlt) (by rw [← HX.out, ← HY.out]; exact hxy)
        rw [← HX.out, ← HY.out] at hv
        obtain ⟨z, hz⟩ : ∃ z, z = (if x < y then (-1 : Int) else if y < x then 1 else 0) := ⟨_, rfl⟩
        rw [← hz] at hv
        have hz0 : ¬ z = 0 := by
          rw [hz]
          by_cases h1 : x < y
          · rw [if_pos h1]; omega
          · rw [if_neg h1, if_pos (by omega)]; omega
        have HV := Lib.hid hv
        have HZ := Lib.hid hz
        clear hv hz hxy
        go_wp2_with (go_at_call 100; refine (cmpInt x y _).mono ?_; rintro r w1 ⟨rfl, rfl⟩; rw [← HZ.out])
        go_ret
        exact ⟨by rw [HV.out]; rfl, rfl⟩
    · have hk7 : k = n := by omega
      subst hk7
      have HV := Lib.hid (cmpLex_eq a b (by rw [← HN.out]; exact HE.out) (by rw [HL.out, HN.out]))
      clear HE
      go_wp2
      go_ret
      exact ⟨by rw [HV.out]; rfl, rfl⟩

/-- each permutation comes before the next -/
def riseTo (ps : List (List Int)) (k : Nat) : Prop := ∀ i, i + 1 < k → cmpLex (ps.getD i []) (ps.getD (i + 1) []) < 0
theorem riseTo.succ {ps : List (List Int)} {k : Nat} (h : riseTo ps (k + 1)) (hk : cmpLex (ps.getD k []) (ps.getD (k + 1) []) < 0) : riseTo ps (k + 2) := fun i hi => by
  by_cases e : i = k
  · subst e; exact hk
  · exact h i (by omega)

set_option maxRecDepth 100000 in
set_option maxHeartbeats 2000000 in
theorem isRising_any (v : Value) (ps : List (List Int)) (w : World) (h : Sps w v ps) (hg : GenP ps) :
    Calls Try.prog 80 #[v] w fun e w' => ∃ r, e = .returned (.bool r) ∧ Says r (riseTo ps ps.length) ∧ Below w.heap.size w w' := by
  obtain ⟨a, cap, rfl, h⟩ := h
  have hn1 := hg.1
  have hn5 := hg.2.1
  have HG := Lib.hid hg
  obtain ⟨n, hn⟩ : ∃ n, n = ps.length := ⟨_, rfl⟩
  have HN := Lib.hid hn
  rw [← hn] at hn1 hn5 ⊢
  rcases h with h | ⟨b, off, rfl, h⟩
  · rw [h] at hn; simp at hn; omega
  have HC := Lib.hid h
  obtain ⟨x0, g0, _⟩ := h 0 (by omega)
  rw [Nat.add_zero] at g0
  have hb0 : b < w.heap.size := World.block_lt_of_cell? w _ g0
  clear h g0 hn hg
  go_enter Try.func80, Try.ntmps80
  go_wp2_with fail
  go_loopw [3] (fun i wr => ∃ k : Nat, i = .int .i64 ((k + 1 : Nat) : Int) ∧ k + 1 ≤ n ∧ Hid (riseTo ps (k + 1)) ∧ Hid (Below w.heap.size w wr)) (fun i _ => n - (intOf i).toNat)
  case atStart => exact ⟨0, rfl, hn1, Lib.hid (fun i hi => by omega), Lib.hid (Below.refl _ _)⟩
  case round =>
    obtain ⟨k, rfl, hk, HR, HB⟩ := hrel
    by_cases hlt : k + 1 < n
    · obtain ⟨x, g1, s1⟩ := HC.out k (by rw [← HN.out]; omega)
      obtain ⟨y, g2, s2⟩ := HC.out (k + 1) (by rw [← HN.out]; exact hlt)
      have g1' : wr.cell? ⟨b, off + k, none⟩ = some x := (HB.out.cell (p := ⟨b, off + k, none⟩) hb0).trans g1
      have g2' : wr.cell? ⟨b, off + (k + 1), none⟩ = some y := (HB.out.cell (p := ⟨b, off + (k + 1), none⟩) hb0).trans g2
      have s1' := s1.below HB.out
      have s2' := s2.below HB.out
      obtain ⟨v1, l1⟩ := HG.out.2.2 k (by rw [← HN.out]; omega)
      obtain ⟨v2, l2⟩ := HG.out.2.2 (k + 1) (by rw [← HN.out]; exact hlt)
      have q1 := (validL_iff _).1 v1
      obtain ⟨z, hz⟩ : ∃ z, z = cmpLex (ps.getD k []) (ps.getD (k + 1) []) := ⟨_, rfl⟩
      have HZ := Lib.hid hz
      have HCall := Lib.hid (show ∀ m, Calls Try.prog 93 #[x, y] (wr.drewN m) fun e w'' => e = .returned (.int .i64 z) ∧ w'' = wr.drewN m from fun m => by
        rw [hz]
        exact cmpPerm _ _ _ _ _ (s1'.below (below_drewN' (Below.refl _ _) m)) (s2'.below (below_drewN' (Below.refl _ _) m)) q1.1 q1.2.1 (by rw [l1, l2]))
      have HLt := Lib.hid hlt
      have ek : ((k + 1 : Nat) : Int) - 1 = (k : Int) := by omega
      obtain ⟨xa, xc, rfl, _⟩ := s1'
      obtain ⟨ya, yc, rfl, _⟩ := s2'
      clear g1 g2 s1 s2 v1 l1 v2 l2 q1 hz
      by_cases hneg : z < 0
      · have D : decide (0 ≤ z) = false := decide_eq_false (by omega)
        have HR2 := Lib.hid (HR.out.succ (by rw [← HZ.out]; exact hneg))
        clear hneg
        go_wp2_with fail
        go_quiet ((go_at_call 93; exact Calls.quiet_of_same (HCall.out _)))
        go_wp2_with fail
        go_roundw
        case rel => exact ⟨k + 1, by go_num, by omega, HR2, Lib.hid (below_drewN' HB.out nq)⟩
        case measure => simp [intOf]; omega
      · have D : decide (0 ≤ z) = true := decide_eq_true (by omega)
        have HSy := Lib.hid (show Says false (riseTo ps ps.length) from Says.no fun hq => by
          have := hq k (by rw [← HN.out]; exact HLt.out)
          rw [← HZ.out] at this; exact hneg this)
        clear hneg
        go_wp2_with fail
        go_quiet ((go_at_call 93; exact Calls.quiet_of_same (HCall.out _)))
        go_wp2_with fail
        go_ret
        exact ⟨false, rfl, by rw [HN.out]; exact HSy.out, below_drewN' HB.out nq⟩
    · have HSy := Lib.hid (show Says true (riseTo ps n) from Says.yes fun i hi => HR.out i (by omega))
      go_wp2_with fail
      go_ret
      exact ⟨true, rfl, HSy.out, HB.out⟩
end Go.Proofs.Ytjnjhfificpbbaa
namespace Go.Proofs.Ytjnjhfificpbbaa
open Go Go.RowKit

/-- a rising list of permutations that holds all products of its members -/
def IsGrp (ps : List (List Int)) : Prop := GenP ps ∧ riseTo ps ps.length ∧ ∀ a, Gen (pks ps) a → a ∈ pks ps
theorem rise_lt {ps : List (List Int)} (h : riseTo ps ps.length) {i : Nat} : ∀ d, i + d + 1 < ps.length → cmpLex (ps.getD i []) (ps.getD (i + d + 1) []) < 0
  | 0, hd => h i hd
  | d + 1, hd => cmpLex_trans _ _ _ (rise_lt h d (by omega)) (h (i + d + 1) hd)
theorem pk7_take (p : List Int) : (pk7 p).take p.length = p := by unfold pk7; simp
theorem pk7_same {p q : List Int} (hl : p.length = q.length) (h : pk7 p = pk7 q) : p = q := by
  rw [← pk7_take p, ← pk7_take q, h, hl]
theorem pks_nodup {ps : List (List Int)} (hg : GenP ps) (h : riseTo ps ps.length) : (pks ps).Nodup := by
  unfold pks
  rw [List.nodup_iff_pairwise_ne, List.pairwise_iff_getElem]
  intro i j hi hj hij e
  rw [List.length_map] at hi hj
  have hlt := rise_lt h (i := i) (j - i - 1) (by omega)
  rw [show i + (j - i - 1) + 1 = j by omega] at hlt
  have e1 : ps.getD i [] = ps[i] := by simp [hi]
  have e2 : ps.getD j [] = ps[j] := by simp [hj]
  have l1 := (hg.2.2 i hi).2
  have l2 := (hg.2.2 j hj).2
  rw [e1] at l1 hlt
  rw [e2] at l2 hlt
  have := pk7_same (l1.trans l2.symm) (by simpa using e)
  rw [this, cmpLex_self] at hlt
  omega
theorem GenP.mem {ps : List (List Int)} (hg : GenP ps) {p : List Int} (hp : p ∈ ps) : validL p = true ∧ p.length = (ps.getD 0 []).length := by
  obtain ⟨i, hi, rfl⟩ := List.getElem_of_mem hp
  have := hg.2.2 i hi
  rwa [show ps.getD i [] = ps[i] by simp [hi]] at this
theorem GenP.els {ps : List (List Int)} (hg : GenP ps) : Els (pks ps) := fun x hx => by
  obtain ⟨p, hp, rfl⟩ := List.mem_map.1 hx
  exact pk7_el (hg.mem hp).1
theorem pks_len (ps : List (List Int)) : (pks ps).length = ps.length := by simp [pks]
/-- the closure has as many members as the list just where the list is closed -/
theorem closed_iff {ps G L : List (List Int)} (hg : GenP ps) (hr : riseTo ps ps.length) (g : Grp G L) (h : ∀ a, a ∈ L ↔ Gen (pks ps) a) : L.length = ps.length ↔ ∀ a, Gen (pks ps) a → a ∈ pks ps := by
  have hn := pks_nodup hg hr
  have hs : ∀ x ∈ pks ps, x ∈ L := fun x hx => (h x).2 (Gen.of_mem hg.els hx)
  constructor
  · intro hl a ha
    exact nodup_full hn hs (by rw [pks_len]; omega) ((h a).2 ha)
  · intro hc
    have h1 := nodup_le hn hs
    have h2 := nodup_le g.nd (fun x hx => hc x ((h x).1 hx))
    rw [pks_len] at h1 h2
    omega

theorem Clo.mono {B B' : Nat} {w : World} {c m : Nat} {n : Int} {vg vl : Value} {G L : List (List Int)} (h : Clo B w c m n vg vl G L) (hB : B' ≤ B) : Clo B' w c m n vg vl G L :=
  { h with rg := h.rg.mono hB, rl := h.rl.mono hB, base := Nat.le_trans hB h.base }

set_option maxRecDepth 100000 in
set_option maxHeartbeats 2000000 in
theorem Close_any (v : Value) (ps : List (List Int)) (w : World) (h : Sps w v ps) (hx : ∀ i, i < ps.length → (ps.getD i []).length ≤ 1000000) :
    Calls Try.prog 16 #[v] w fun e w' => Below w.heap.size w w' ∧ ((¬ GenP ps ∧ e = .returned (.tuple #[.slice none 0 0, .int .i64 1])) ∨ (GenP ps ∧ ∃ x L, e = .returned (.tuple #[x, .int .i64 0]) ∧ PermsOf w.heap.size (ps.getD 0 []).length L x w' ∧ L.Nodup ∧ ∀ a, a ∈ L ↔ Gen (pks ps) a)) := by
  have HH := Lib.hid h
  have HX := Lib.hid hx
  obtain ⟨a, cap, rfl, _⟩ := h
  obtain ⟨n, hn⟩ : ∃ n, n = ps.length := ⟨_, rfl⟩
  have HN := Lib.hid hn
  rw [← hn] at HH ⊢
  clear hx hn
  go_enter Try.func16, Try.ntmps16
  go_wp2_with fail
  refine (areGens_any _ ps _ HH.out HX.out).mono ?_
  rintro e w1 ⟨r, rfl, hs, hb1⟩
  have HS := Lib.hid hs
  have HB1 := Lib.hid hb1
  clear hs hb1
  cases r with
  | false =>
    have HF := Lib.hid (show ¬ GenP ps from fun hp => by have := HS.out.2 hp; cases this)
    clear HS
    go_wp2_with fail
    go_ret2
    exact ⟨HB1.out, .inl ⟨HF.out, rfl⟩⟩
  | true =>
    have HG := Lib.hid (HS.out.1 rfl)
    clear HS
    go_wp2_with fail
    refine (generate_any _ ps _ (HH.out.below HB1.out) HG.out.1 (fun p hp => (HG.out.mem hp).1) (by have := HG.out.2.1; omega)).mono ?_
    rintro e w2 ⟨c, m, vg, vl, G, L, rfl, ho, hm, hb2⟩
    have HO := Lib.hid ho
    have HM := Lib.hid hm
    have HB2 := Lib.hid (HB1.out.trans (hb2.mono HB1.out.size))
    have hn7 := ((validL_iff _).1 (HG.out.2.2 0 HG.out.1).1).2.1
    clear ho hm hb2
    go_wp2_with fail
    refine (perms_any HO.out.clo HO.out.grp hn7).mono ?_
    rintro e w3 ⟨x, rfl, hp, hb3⟩
    have HP := Lib.hid hp
    have HB3 := Lib.hid (HB2.out.trans (hb3.mono HB2.out.size))
    clear hp hb3
    go_wp2_with fail
    go_ret2
    refine ⟨HB3.out, .inr ⟨HG.out, x, L, rfl, ?_, HO.out.grp.nd, HM.out⟩⟩
    obtain ⟨L', h1, h2, h3⟩ := HP.out
    exact ⟨L', h1, h2, h3.mono HB2.out.size⟩

set_option maxRecDepth 100000 in
set_option maxHeartbeats 2000000 in
theorem closedOf_any (v : Value) (ps : List (List Int)) (w : World) (h : Sps w v ps) (hx : ∀ i, i < ps.length → (ps.getD i []).length ≤ 1000000) :
    Calls Try.prog 57 #[v] w fun e w' => Below w.heap.size w w' ∧ ((¬ IsGrp ps ∧ e = .returned (.tuple #[.pointer none, .int .i64 1])) ∨ (IsGrp ps ∧ ∃ c m vg vl G L, e = .returned (.tuple #[.pointer (some ⟨c, 0, none⟩), .int .i64 0]) ∧ Own w.heap.size w' c m (ps.getD 0 []).length vg vl G L ∧ ∀ a, a ∈ L ↔ Gen (pks ps) a)) := by
  have HH := Lib.hid h
  have HX := Lib.hid hx
  obtain ⟨a, cap, rfl, _⟩ := h
  obtain ⟨n, hn⟩ : ∃ n, n = ps.length := ⟨_, rfl⟩
  have HN := Lib.hid hn
  rw [← hn] at HH ⊢
  clear hx hn
  go_enter Try.func57, Try.ntmps57
  go_wp2_with fail
  refine (areGens_any _ ps _ HH.out HX.out).mono ?_
  rintro e w1 ⟨r, rfl, hs, hb1⟩
  have HS := Lib.hid hs
  have HB1 := Lib.hid hb1
  clear hs hb1
  cases r with
  | false =>
    have HF := Lib.hid (show ¬ IsGrp ps from fun hp => by have := HS.out.2 hp.1; cases this)
    clear HS
    go_wp2_with fail
    go_ret2
    exact ⟨HB1.out, .inl ⟨HF.out, rfl⟩⟩
  | true =>
    have HG := Lib.hid (HS.out.1 rfl)
    clear HS
    go_wp2_with fail
    refine (isRising_any _ ps _ (HH.out.below HB1.out) HG.out).mono ?_
    rintro e w2 ⟨r, rfl, hs, hb2⟩
    have HS := Lib.hid hs
    have HB2 := Lib.hid (HB1.out.trans (hb2.mono HB1.out.size))
    clear hs hb2
    cases r with
    | false =>
      have HF := Lib.hid (show ¬ IsGrp ps from fun hp => by have := HS.out.2 hp.2.1; cases this)
      clear HS
      go_wp2_with fail
      go_ret2
      exact ⟨HB2.out, .inl ⟨HF.out, rfl⟩⟩
    | true =>
      have HR := Lib.hid (HS.out.1 rfl)
      clear HS
      go_wp2_with fail
      refine (generate_any _ ps _ (HH.out.below HB2.out) HG.out.1 (fun p hp => (HG.out.mem hp).1) (by have := HG.out.2.1; omega)).mono ?_
      rintro e w3 ⟨c, m, vg, vl, G, L, rfl, ho, hm, hb3⟩
      have HO := Lib.hid ho
      have HM := Lib.hid hm
      have HB3 := Lib.hid (HB2.out.trans (hb3.mono HB2.out.size))
      have hci := closed_iff HG.out HR.out ho.grp hm
      obtain ⟨a1, cap1, hv1⟩ := ho.clo.rl.slice
      have k1 : w3.cell? ⟨c, 2, none⟩ = some (.slice a1 L.length cap1) := by rw [← hv1]; simpa using ho.clo.cells.cell 2
      obtain ⟨l, hl⟩ : ∃ l, l = L.length := ⟨_, rfl⟩
      rw [← hl] at k1 hci
      rw [← HN.out] at hci
      have HCi := Lib.hid hci
      clear ho hm hb3 hci hv1 hl
      by_cases hlen : l = n
      · have HF := Lib.hid (show IsGrp ps from ⟨HG.out, HR.out, HCi.out.1 hlen⟩)
        have D : ((l : Int) != (n : Int)) = false := by rw [hlen]; simp
        clear hlen
        go_wp2_with fail
        go_ret2
        exact ⟨HB3.out, .inr ⟨HF.out, c, m, vg, vl, G, L, rfl, { HO.out with oc := Nat.le_trans HB2.out.size HO.out.oc, om := Nat.le_trans HB2.out.size HO.out.om, og := fun b hb => Nat.le_trans HB2.out.size (HO.out.og b hb), ol := fun b hb => Nat.le_trans HB2.out.size (HO.out.ol b hb), clo := HO.out.clo.mono HB2.out.size }, HM.out⟩⟩
      · have HF := Lib.hid (show ¬ IsGrp ps from fun hp => hlen (HCi.out.2 hp.2.2))
        have D : ((l : Int) != (n : Int)) = true := by simp; omega
        clear hlen
        go_wp2_with fail
        go_ret2
        exact ⟨HB3.out, .inl ⟨HF.out, rfl⟩⟩
end Go.Proofs.Ytjnjhfificpbbaa
namespace Go.Proofs.Ytjnjhfificpbbaa
open Go Go.RowKit

theorem gen_same {cs ds : List (List Int)} (h : ∀ x, x ∈ cs ↔ x ∈ ds) (a : List Int) : Gen cs a ↔ Gen ds a := by
  have aux : ∀ {cs ds : List (List Int)}, (∀ x, x ∈ cs → x ∈ ds) → Gen cs a → Gen ds a := fun hs hg => by
    induction hg with
    | one => exact .one
    | step _ hm ih => exact ih.step (hs _ hm)
  exact ⟨aux fun x hx => (h x).1 hx, aux fun x hx => (h x).2 hx⟩
theorem IsDer.same {L M K : List (List Int)} (h : IsDer L K) (hs : ∀ x, x ∈ L ↔ x ∈ M) : IsDer M K := fun a =>
  (h a).trans (gen_same (fun x => by
    rw [mem_comms, mem_comms]
    constructor
    · rintro ⟨p, q, hp, hq, e⟩; exact ⟨p, q, (hs p).1 hp, (hs q).1 hq, e⟩
    · rintro ⟨p, q, hp, hq, e⟩; exact ⟨p, q, (hs p).2 hp, (hs q).2 hq, e⟩) a)
theorem IsGrp.mem {ps L : List (List Int)} (h : IsGrp ps) (hm : ∀ a, a ∈ L ↔ Gen (pks ps) a) (x : List Int) : x ∈ L ↔ x ∈ pks ps :=
  (hm x).trans ⟨h.2.2 x, Gen.of_mem h.1.els⟩
theorem IsGrp.seven {ps : List (List Int)} (h : IsGrp ps) : (ps.getD 0 []).length ≤ 7 := ((validL_iff _).1 (h.1.2.2 0 h.1.1).1).2.1
theorem PermsOf.mono {B B' n : Nat} {L : List (List Int)} {x : Value} {w : World} (h : PermsOf B n L x w) (hB : B' ≤ B) : PermsOf B' n L x w := by
  obtain ⟨L', h1, h2, h3⟩ := h
  exact ⟨L', h1, h2, h3.mono hB⟩

set_option maxRecDepth 100000 in
set_option maxHeartbeats 2000000 in
theorem Derived_any (v : Value) (ps : List (List Int)) (w : World) (h : Sps w v ps) (hx : ∀ i, i < ps.length → (ps.getD i []).length ≤ 1000000) :
    Calls Try.prog 21 #[v] w fun e w' => Below w.heap.size w w' ∧ ((¬ IsGrp ps ∧ e = .returned (.tuple #[.slice none 0 0, .int .i64 1])) ∨ (IsGrp ps ∧ ∃ x K, e = .returned (.tuple #[x, .int .i64 0]) ∧ PermsOf w.heap.size (ps.getD 0 []).length K x w' ∧ K.Nodup ∧ IsDer (pks ps) K)) := by
  have HH := Lib.hid h
  have HX := Lib.hid hx
  obtain ⟨a, cap, rfl, _⟩ := h
  obtain ⟨n, hn⟩ : ∃ n, n = ps.length := ⟨_, rfl⟩
  rw [← hn] at HH ⊢
  clear hx hn
  go_enter Try.func21, Try.ntmps21
  go_wp2_with fail
  refine (closedOf_any _ ps _ HH.out HX.out).mono ?_
  rintro e w1 ⟨hb1, ⟨hf, rfl⟩ | ⟨hg, c, m, vg, vl, G, L, rfl, ho, hm⟩⟩
  · have HF := Lib.hid hf
    have HB1 := Lib.hid hb1
    clear hf hb1
    go_wp2_with fail
    go_ret2
    exact ⟨HB1.out, .inl ⟨HF.out, rfl⟩⟩
  · have HG := Lib.hid hg
    have HO := Lib.hid ho
    have HM := Lib.hid hm
    have HB1 := Lib.hid hb1
    clear hg ho hm hb1
    go_wp2_with fail
    refine (derive_any HO.out.clo HO.out.grp).mono ?_
    rintro e w2 ⟨c', m', vg', vl', D, K, rfl, ho2, hd, hb2⟩
    have HO2 := Lib.hid ho2
    have HD := Lib.hid ((D2.isDer HO.out.grp ho2.grp hd).same (HG.out.mem HM.out))
    have HB2 := Lib.hid (HB1.out.trans (hb2.mono HB1.out.size))
    clear ho2 hd hb2
    go_wp2_with fail
    refine (perms_any HO2.out.clo HO2.out.grp HG.out.seven).mono ?_
    rintro e w3 ⟨x, rfl, hp, hb3⟩
    have HP := Lib.hid hp
    have HB3 := Lib.hid (HB2.out.trans (hb3.mono HB2.out.size))
    clear hp hb3
    go_wp2_with fail
    go_ret2
    exact ⟨HB3.out, .inr ⟨HG.out, x, K, rfl, HP.out.mono HB2.out.size, HO2.out.grp.nd, HD.out⟩⟩
end Go.Proofs.Ytjnjhfificpbbaa
