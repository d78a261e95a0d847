/- Plain mathematics: the groups of the chapter's examples. | Plain mathematics: at most 5040 permutations; what perms hands back is a closed list again. | The reference's Same at lists of permutations; rows of the call's own as lists. | alive: the chapter's examples. | alive: the walk. | What a list of permutations that came in reads as; the laws' few. -/
import Derived.Test.YtjnjhfificpbbaaSERS
import Derived.Test.YtjnjhfificpbbaaNums
import Derived.Test.YtjnjhfificpbbaaParL
import Derived.Test.YtjnjhfificpbbaaSame
import Derived.Deep.Matrix
namespace Go.Proofs.Ytjnjhfificpbbaa
open Go Go.RowKit

/-- one product more -/
def stepG (gs acc : List (List Int)) (s : Nat × Nat) : List (List Int) := acc ++ [mulL (acc.getD s.1 (idL 7)) (gs.getD s.2 (idL 7))]
/-- products of generators, each of an earlier one and a generator -/
def build (gs : List (List Int)) (steps : List (Nat × Nat)) : List (List Int) := steps.foldl (stepG gs) [idL 7]
theorem getD_all {α : Type} {P : α → Prop} {l : List α} (h : ∀ x ∈ l, P x) (d : α) (hd : P d) (i : Nat) : P (l.getD i d) := by
  by_cases hi : i < l.length
  · rw [show l.getD i d = l[i] by simp [hi]]; exact h _ (List.getElem_mem hi)
  · rw [show l.getD i d = d by simp [List.getD_eq_getElem?_getD, List.getElem?_eq_none (Nat.le_of_not_lt hi)]]; exact hd
theorem fold_gen {gs : List (List Int)} (hg : Els gs) : ∀ (steps : List (Nat × Nat)) (acc : List (List Int)), (∀ x ∈ acc, Gen gs x) → ∀ x ∈ steps.foldl (stepG gs) acc, Gen gs x
  | [], _, h => h
  | s :: r, acc, h => fold_gen hg r _ (fun x hx => by
    rcases List.mem_append.1 hx with e | e
    · exact h x e
    · rw [List.mem_singleton.1 e]
      exact (getD_all h _ .one _).mul hg (getD_all (P := Gen gs) (fun y hy => Gen.of_mem hg hy) _ .one _))
theorem build_mem {gs : List (List Int)} {steps : List (Nat × Nat)} (hg : Els gs) (h1 : idL 7 ∈ build gs steps) (h2 : ∀ a ∈ build gs steps, ∀ g ∈ gs, mulL a g ∈ build gs steps) (a : List Int) : a ∈ build gs steps ↔ Gen gs a :=
  gen_list h1 (fun a g ha hg => h2 a ha g hg) (fold_gen hg steps _ (fun x hx => by rw [List.mem_singleton.1 hx]; exact .one))
theorem els_of {gs : List (List Int)} (h : ∀ g ∈ gs, validL g = true ∧ g.length = 7) : Els gs := h
theorem len_same {L M : List (List Int)} (hl : L.Nodup) (hm : M.Nodup) (h : ∀ a, a ∈ L ↔ a ∈ M) : L.length = M.length :=
  Nat.le_antisymm (nodup_le hl (fun x hx => (h x).1 hx)) (nodup_le hm (fun x hx => (h x).2 hx))
/-- the derived group of a listed group is what some commutators generate -/
theorem der_of {L gs : List (List Int)} {steps : List (Nat × Nat)} (hg : Els gs) (h1 : idL 7 ∈ build gs steps) (h2 : ∀ a ∈ build gs steps, ∀ b ∈ build gs steps, mulL a b ∈ build gs steps) (h3 : ∀ a ∈ L, ∀ b ∈ L, commG a b ∈ build gs steps) (h4 : ∀ g ∈ gs, ∃ a b, a ∈ L ∧ b ∈ L ∧ g = commG a b) (hL : Els L) : IsDer L (build gs steps) := fun x => by
  have hc : Els (comms L) := fun c hc => by
    obtain ⟨a, b, ha, hb, rfl⟩ := mem_comms.1 hc
    exact (hL a ha).comm (hL b hb)
  constructor
  · intro hx
    exact Gen.sub hc (fun g hg' => Gen.of_mem hc (mem_comms.2 (h4 g hg'))) (fold_gen hg steps _ (fun x hx => by rw [List.mem_singleton.1 hx]; exact .one) x hx)
  · intro hx
    exact hx.least (S := fun a => a ∈ build gs steps) h1 (fun a c ha hc' => by
      obtain ⟨p, q, hp, hq, rfl⟩ := mem_comms.1 hc'
      exact h2 a ha _ (h3 p hp q hq))
theorem IsDer.uniq {L K M : List (List Int)} (h : IsDer L K) (h' : IsDer L M) (a : List Int) : a ∈ K ↔ a ∈ M := (h a).trans (h' a).symm

/-- the alternating group of five points -/
def a5g : List (List Int) := [[1, 2, 3, 4, 0, 5, 6], [1, 2, 0, 3, 4, 5, 6]]
def a5 : List (List Int) := build a5g [(0, 0), (0, 1), (1, 0), (1, 1), (2, 0), (2, 1), (3, 0), (3, 1), (4, 0), (4, 1), (5, 0), (5, 1), (6, 0), (7, 0), (7, 1), (8, 0), (8, 1), (9, 0), (9, 1), (10, 0), (11, 0), (12, 0), (12, 1), (13, 0), (13, 1), (14, 1), (15, 0), (16, 1), (17, 0), (18, 0), (19, 0), (19, 1), (20, 0), (20, 1), (21, 0), (21, 1), (22, 1), (25, 0), (25, 1), (26, 0), (27, 1), (28, 0), (28, 1), (29, 1), (30, 0), (30, 1), (34, 0), (36, 0), (37, 1), (38, 1), (40, 1), (41, 0), (41, 1), (44, 0), (47, 1), (48, 1), (51, 0), (51, 1), (54, 1)]
theorem a5_els : Els a5g := els_of (by decide +kernel)
theorem a5_one : idL 7 ∈ a5 := by decide +kernel
theorem a5_cls : ∀ a ∈ a5, ∀ g ∈ a5g, mulL a g ∈ a5 := by decide +kernel
theorem a5_nd : a5.Nodup := by decide +kernel
theorem a5_len : a5.length = 60 := by decide +kernel
theorem a5_mem (a : List Int) : a ∈ a5 ↔ Gen a5g a := build_mem a5_els a5_one a5_cls a
theorem a5_comm : ∀ g ∈ a5g, ∃ p ∈ [(3, 49), (2, 52)], g = commG (a5.getD p.1 []) (a5.getD p.2 []) := by decide +kernel

/-- the symmetric group of four points and its derived groups -/
def s4g : List (List Int) := [[1, 2, 3, 0, 4, 5, 6], [1, 0, 2, 3, 4, 5, 6]]
def s4 : List (List Int) := build s4g [(0, 0), (0, 1), (1, 0), (1, 1), (2, 0), (3, 0), (3, 1), (4, 0), (5, 0), (5, 1), (6, 1), (7, 0), (8, 0), (8, 1), (9, 1), (11, 0), (12, 0), (12, 1), (13, 1), (15, 0), (16, 0), (16, 1), (17, 1)]
def a4g : List (List Int) := [[1, 2, 0, 3, 4, 5, 6], [0, 2, 3, 1, 4, 5, 6]]
def a4 : List (List Int) := build a4g [(0, 0), (0, 1), (1, 0), (1, 1), (2, 0), (2, 1), (3, 1), (4, 1), (5, 0), (6, 0), (8, 0)]
def v4g : List (List Int) := [[1, 0, 3, 2, 4, 5, 6], [2, 3, 0, 1, 4, 5, 6]]
def v4 : List (List Int) := build v4g [(0, 0), (0, 1), (1, 1)]
theorem s4_els : Els s4g := els_of (by decide +kernel)
theorem s4_one : idL 7 ∈ s4 := by decide +kernel
theorem s4_cls : ∀ a ∈ s4, ∀ g ∈ s4g, mulL a g ∈ s4 := by decide +kernel
theorem s4_nd : s4.Nodup := by decide +kernel
theorem s4_len : s4.length = 24 := by decide +kernel
theorem s4_mem (a : List Int) : a ∈ s4 ↔ Gen s4g a := build_mem s4_els s4_one s4_cls a
theorem a4_nd : a4.Nodup := by decide +kernel
theorem a4_len : a4.length = 12 := by decide +kernel
theorem v4_nd : v4.Nodup := by decide +kernel
theorem v4_len : v4.length = 4 := by decide +kernel
theorem s4_all : ∀ a ∈ s4, validL a = true ∧ a.length = 7 := by decide +kernel
theorem a4_all : ∀ a ∈ a4, validL a = true ∧ a.length = 7 := by decide +kernel
theorem v4_all : ∀ a ∈ v4, validL a = true ∧ a.length = 7 := by decide +kernel
theorem s4_comm : ∀ a ∈ s4, ∀ b ∈ s4, commG a b ∈ a4 := by decide +kernel
theorem a4_comm : ∀ a ∈ a4, ∀ b ∈ a4, commG a b ∈ v4 := by decide +kernel
theorem v4_comm : ∀ a ∈ v4, ∀ b ∈ v4, commG a b ∈ [idL 7] := by decide +kernel
theorem a4_mul : ∀ a ∈ a4, ∀ b ∈ a4, mulL a b ∈ a4 := by decide +kernel
theorem v4_mul : ∀ a ∈ v4, ∀ b ∈ v4, mulL a b ∈ v4 := by decide +kernel
theorem a4_gens : ∀ g ∈ a4g, ∃ a ∈ s4, ∃ b ∈ s4, g = commG a b := by decide +kernel
theorem v4_gens : ∀ g ∈ v4g, ∃ a ∈ a4, ∃ b ∈ a4, g = commG a b := by decide +kernel
theorem s4_der : IsDer s4 a4 := der_of (els_of (by decide +kernel)) (by decide +kernel) a4_mul s4_comm (fun g hg => by obtain ⟨a, ha, b, hb, e⟩ := a4_gens g hg; exact ⟨a, b, ha, hb, e⟩) s4_all
theorem a4_der : IsDer a4 v4 := der_of (els_of (by decide +kernel)) (by decide +kernel) v4_mul a4_comm (fun g hg => by obtain ⟨a, ha, b, hb, e⟩ := v4_gens g hg; exact ⟨a, b, ha, hb, e⟩) a4_all
theorem v4_der : IsDer v4 [idL 7] := der_of (gs := []) (steps := []) (fun _ h => by cases h) (List.mem_singleton.2 rfl) (by decide +kernel) v4_comm (fun g h => by cases h) v4_all
theorem one_der : IsDer [idL 7] [idL 7] := der_of (gs := []) (steps := []) (fun _ h => by cases h) (List.mem_singleton.2 rfl) (by decide +kernel) (by decide +kernel) (fun g h => by cases h) (fun a h => by rw [List.mem_singleton.1 h]; exact El.one)
theorem a5_all : ∀ a ∈ a5, validL a = true ∧ a.length = 7 := by decide +kernel
theorem a5_der : IsDer a5 a5 := fun x => by
  have hc : Els (comms a5) := fun c hc => by
    obtain ⟨a, b, ha, hb, rfl⟩ := mem_comms.1 hc
    exact El.comm (a5_all a ha) (a5_all b hb)
  constructor
  · intro hx
    refine Gen.sub hc (fun g hg => Gen.of_mem hc (mem_comms.2 ?_)) ((a5_mem x).1 hx)
    obtain ⟨p, hp, e⟩ := a5_comm g hg
    have hb : p.1 < a5.length ∧ p.2 < a5.length := by
      rw [a5_len]
      rcases List.mem_cons.1 hp with e | e
      · rw [e]; decide
      · rw [List.mem_singleton.1 e]; decide
    exact ⟨_, _, getD_mem hb.1, getD_mem hb.2, e⟩
  · intro hx
    exact (a5_mem x).2 (Gen.sub a5_els (fun c hc' => by
      obtain ⟨p, q, hp, hq, rfl⟩ := mem_comms.1 hc'
      exact ((a5_mem p).1 hp).comm a5_els ((a5_mem q).1 hq)) hx)
/-- the orders of the derived series of the symmetric group of four points -/
theorem s4_series {ps : List (List Int)} {Ls : List (List (List Int))} (h : SerOf ps Ls) (hp : ∀ x, x ∈ pks ps ↔ x ∈ s4) : Ls.map List.length = [24, 12, 4, 1] := by
  obtain ⟨hc, ⟨L0, h0, hm0⟩, ⟨M, hl, hM⟩, hn⟩ := h
  match Ls, h0 with
  | [], h0 => cases h0
  | L :: r, h0 =>
    obtain rfl : L = L0 := by simpa using h0
    have m0 : ∀ x, x ∈ L ↔ x ∈ s4 := fun x => (hm0 x).trans (hp x)
    have n0 := len_same (hn L (by simp)) s4_nd m0
    rw [s4_len] at n0
    have d0 : IsDer L a4 := s4_der.same (fun x => (m0 x).symm)
    match r with
    | [] =>
      obtain rfl : L = M := by simpa using hl
      have := len_same (hn L (by simp)) a4_nd (hM.uniq d0)
      rw [n0, a4_len] at this; cases this
    | K :: r =>
      obtain ⟨e1, _, hc⟩ := hc
      have m1 := e1.uniq d0
      have n1 := len_same (hn K (by simp)) a4_nd m1
      rw [a4_len] at n1
      have d1 : IsDer K v4 := a4_der.same (fun x => (m1 x).symm)
      match r with
      | [] =>
        obtain rfl : K = M := by simpa using hl
        have := len_same (hn K (by simp)) v4_nd (hM.uniq d1)
        rw [n1, v4_len] at this; cases this
      | K2 :: r =>
        obtain ⟨e2, _, hc⟩ := hc
        have m2 := e2.uniq d1
        have n2 := len_same (hn K2 (by simp)) v4_nd m2
        rw [v4_len] at n2
        have d2 : IsDer K2 [idL 7] := v4_der.same (fun x => (m2 x).symm)
        match r with
        | [] =>
          obtain rfl : K2 = M := by simpa using hl
          have := len_same (hn K2 (by simp)) (by simp) (hM.uniq d2)
          rw [n2] at this; cases this
        | K3 :: r =>
          obtain ⟨e3, _, hc⟩ := hc
          have m3 := e3.uniq d2
          have n3 := len_same (hn K3 (by simp)) (by simp) m3
          have d3 : IsDer K3 [idL 7] := one_der.same (fun x => (m3 x).symm)
          match r with
          | [] => simp [n0, n1, n2]; simpa using n3
          | K4 :: r =>
            obtain ⟨e4, hlt, _⟩ := hc
            have n4 := len_same (hn K4 (by simp)) (by simp) (e4.uniq d3)
            rw [n3, n4] at hlt
            exact absurd hlt (by simp)
end Go.Proofs.Ytjnjhfificpbbaa
namespace Go.Proofs.Ytjnjhfificpbbaa
open Go Go.RowKit

theorem split_len {α : Type} (p : α → Bool) : ∀ L : List α, L.length = (L.filter p).length + (L.filter fun x => !p x).length
  | [] => rfl
  | x :: L => by
    have := split_len p L
    cases h : p x <;> simp [h] <;> omega
/-- lists whose heads are on R: if none of R heads more than b of them, they are at most |R| b -/
theorem heads_le (b : Nat) : ∀ (R : List Int) (L : List (List Int)), (∀ p ∈ L, ∃ x q, p = x :: q ∧ x ∈ R) → (∀ x ∈ R, (L.filter fun p => p.head? == some x).length ≤ b) → L.length ≤ R.length * b
  | [], L, h, _ => by
    match L, h with
    | [], _ => simp
    | p :: _, h => obtain ⟨x, _, _, hx⟩ := h p (by simp); simp at hx
  | x :: R, L, h, hb => by
    have h1 := split_len (fun p : List Int => p.head? == some x) L
    have h2 := hb x (by simp)
    have h3 := heads_le b R (L.filter fun p => !(p.head? == some x)) (fun p hp => by
      obtain ⟨hp1, hp2⟩ := List.mem_filter.1 hp
      obtain ⟨y, q, rfl, hy⟩ := h p hp1
      refine ⟨y, q, rfl, ?_⟩
      rcases List.mem_cons.1 hy with e | e
      · rw [e] at hp2; simp at hp2
      · exact e) (fun y hy => by
      refine Nat.le_trans ?_ (hb y (by simp [hy]))
      exact ((List.filter_sublist (l := L)).filter _).length_le)
    simp only [List.length_cons]
    rw [Nat.add_mul, Nat.one_mul]
    omega
theorem tails_nodup {x : Int} : ∀ {L : List (List Int)}, L.Nodup → (∀ p ∈ L, ∃ q, p = x :: q) → (L.map List.tail).Nodup
  | [], _, _ => by simp
  | p :: L, hn, h => by
    rw [List.nodup_cons] at hn
    rw [List.map_cons, List.nodup_cons]
    refine ⟨fun hm => ?_, tails_nodup hn.2 (fun q hq => h q (by simp [hq]))⟩
    obtain ⟨q, hq, e⟩ := List.mem_map.1 hm
    obtain ⟨a, rfl⟩ := h p (by simp)
    obtain ⟨b, rfl⟩ := h q (by simp [hq])
    have : b = a := by simpa using e
    rw [this] at hq
    exact hn.1 hq
theorem perms_le : ∀ (n : Nat) (R : List Int) (L : List (List Int)), R.length = n → L.Nodup → (∀ p ∈ L, p.Perm R) → L.length ≤ fact n
  | 0, R, L, hR, hn, h => by
    have : ∀ p ∈ L, p = [] := fun p hp => List.length_eq_zero_iff.1 (by rw [(h p hp).length_eq, hR])
    have := nodup_le (K := L) (L := [[]]) hn (fun p hp => by rw [this p hp]; simp)
    simpa [fact] using this
  | n + 1, R, L, hR, hn, h => by
    have h1 := heads_le (fact n) R L (fun p hp => by
      have hp' := h p hp
      match p, hp' with
      | [], hp' => have := hp'.length_eq; rw [hR] at this; cases this
      | x :: q, hp' => exact ⟨x, q, rfl, hp'.mem_iff.1 (by simp)⟩) (fun x hx => by
      have hs : ∀ p ∈ L.filter (fun p => p.head? == some x), ∃ q, p = x :: q := fun p hp => by
        obtain ⟨_, hp2⟩ := List.mem_filter.1 hp
        match p, hp2 with
        | [], hp2 => simp at hp2
        | y :: q, hp2 => exact ⟨q, by simp at hp2; rw [hp2]⟩
      have := perms_le n (R.erase x) ((L.filter fun p => p.head? == some x).map List.tail) (by rw [List.length_erase_of_mem hx, hR]; rfl) (tails_nodup (hn.filter _) hs) (fun q hq => by
        obtain ⟨p, hp, rfl⟩ := List.mem_map.1 hq
        obtain ⟨q, rfl⟩ := hs p hp
        have h5 := h _ (List.mem_filter.1 hp).1
        have h6 := h5.erase x
        simpa using h6)
      simpa using this)
    rw [hR] at h1
    exact h1
theorem cmpLex_app (r : List Int) : ∀ p q : List Int, p.length = q.length → cmpLex (p ++ r) (q ++ r) = cmpLex p q
  | [], [], _ => by simp only [List.nil_append]; rw [cmpLex_self]; rfl
  | [], _ :: _, h => by simp at h
  | _ :: _, [], h => by simp at h
  | x :: p, y :: q, h => by
    have := cmpLex_app r p q (by simpa using h)
    simp only [List.cons_append, cmpLex, this]
theorem cmp_pk {p q : List Int} (h : p.length = q.length) : cmpLex (pk7 p) (pk7 q) = cmpLex p q := by
  unfold pk7
  rw [← h]
  exact cmpLex_app _ p q h
/-- all that the packed permutations of n points generate are packed permutations of n points -/
theorem gen_pk {ps : List (List Int)} (hg : GenP ps) {a : List Int} (h : Gen (pks ps) a) : ∃ p, validL p = true ∧ p.length = (ps.getD 0 []).length ∧ a = pk7 p := by
  have h0 := (validL_iff _).1 (hg.2.2 0 hg.1).1
  induction h with
  | one => exact ⟨idL (ps.getD 0 []).length, idL_valid h0.1 h0.2.1, by simp [length_idL], (pk7_id h0.2.1).symm⟩
  | step _ hm ih =>
    obtain ⟨p, hp, hl, rfl⟩ := ih
    obtain ⟨q, hq, rfl⟩ := List.mem_map.1 hm
    obtain ⟨v, l⟩ := hg.mem hq
    exact ⟨mulL p q, mulL_valid hp v (hl.trans l.symm), by rw [← hl]; simp [mulL], (pk7_mul hp v (hl.trans l.symm)).symm⟩
/-- what perms hands back is a closed list -/
theorem back_grp {n : Nat} {L L' gs : List (List Int)} (h7 : n ≤ 7) (hgs : Els gs) (hm : ∀ a, a ∈ L ↔ Gen gs a) (hnd : L.Nodup) (hp : L'.Perm L) (ha : Asc L') (hpk : ∀ a ∈ L, ∃ p, validL p = true ∧ p.length = n ∧ a = pk7 p) :
    IsGrp (L'.map (List.take n)) ∧ pks (L'.map (List.take n)) = L' ∧ ((L'.map (List.take n)).getD 0 []).length = n := by
  have hpk' : ∀ a ∈ L', ∃ p, validL p = true ∧ p.length = n ∧ a = pk7 p := fun a h => hpk a (hp.mem_iff.1 h)
  have htk : ∀ a ∈ L', validL (a.take n) = true ∧ (a.take n).length = n ∧ pk7 (a.take n) = a := fun a h => by
    obtain ⟨p, h1, h2, rfl⟩ := hpk' a h
    rw [← h2, pk7_take]; exact ⟨h1, rfl, rfl⟩
  have e : pks (L'.map (List.take n)) = L' := by
    unfold pks
    rw [List.map_map]
    conv => rhs; rw [← List.map_id L']
    exact List.map_congr_left fun a h => (htk a h).2.2
  have hnd' : L'.Nodup := hp.nodup_iff.2 hnd
  have hqn : (L'.map (List.take n)).Nodup := by
    have h := hnd'
    rw [← e] at h
    unfold pks at h
    unfold List.Nodup at h ⊢
    exact (List.pairwise_map.1 h).imp fun h1 h2 => h1 (by rw [h2])
  have h1 : idL 7 ∈ L' := hp.mem_iff.2 ((hm _).2 .one)
  have hpos : 0 < L'.length := List.length_pos_of_mem h1
  have hgd : ∀ i, i < L'.length → ∃ a, a ∈ L' ∧ L'[i]? = some a ∧ (L'.map (List.take n)).getD i [] = a.take n := fun i hi => ⟨L'[i], List.getElem_mem hi, List.getElem?_eq_getElem hi, by simp [hi]⟩
  have hlen : ∀ i, i < L'.length → validL ((L'.map (List.take n)).getD i []) = true ∧ ((L'.map (List.take n)).getD i []).length = n := fun i hi => by
    obtain ⟨a, hm, _, e⟩ := hgd i hi
    rw [e]; exact ⟨(htk a hm).1, (htk a hm).2.1⟩
  have h0 := (hlen 0 hpos).2
  have hle : (L'.map (List.take n)).length ≤ 5040 := Nat.le_trans (perms_le n (idL n) _ (length_idL n) hqn (fun p hp => by
    obtain ⟨a, ha, rfl⟩ := List.mem_map.1 hp
    obtain ⟨v1, v2, _⟩ := htk a ha
    have := valid_perm v1
    rwa [v2] at this)) (fact_le n h7).2
  refine ⟨⟨⟨by rw [List.length_map]; exact hpos, hle, fun i hi => ?_⟩, fun i hi => ?_, fun a h => ?_⟩, e, h0⟩
  · rw [List.length_map] at hi
    rw [h0]; exact hlen i hi
  · rw [List.length_map] at hi
    obtain ⟨a, ma, ga, ea⟩ := hgd i (by omega)
    obtain ⟨b, mb, gb, eb⟩ := hgd (i + 1) hi
    rw [ea, eb, ← cmp_pk ((htk a ma).2.1.trans (htk b mb).2.1.symm), (htk a ma).2.2, (htk b mb).2.2]
    have hA := ha
    unfold Asc at hA
    rw [List.pairwise_iff_getElem] at hA
    have h3 := hA i (i + 1) (by omega) hi (by omega)
    have hN := hnd'
    unfold List.Nodup at hN
    rw [List.pairwise_iff_getElem] at hN
    have h4 := hN i (i + 1) (by omega) hi (by omega)
    rw [List.getElem?_eq_getElem (by omega)] at ga
    rw [List.getElem?_eq_getElem hi] at gb
    rw [Option.some.inj ga, Option.some.inj gb] at h3 h4
    by_cases hh : cmpLex a b < 0
    · exact hh
    · exact absurd (cmpLex_total a b hh h3) h4
  · rw [e] at h ⊢
    exact hp.mem_iff.2 ((hm a).2 (Gen.sub hgs (fun g hg => (hm g).1 (hp.mem_iff.1 hg)) h))
end Go.Proofs.Ytjnjhfificpbbaa
namespace Go.Proofs.Ytjnjhfificpbbaa
open Go Go.RowKit

/-- a row of the call's own reads as its lists -/
theorem Owp.sps {B : Nat} {w : World} {v : Value} {ps : List (List Int)} (h : Owp B w v ps) : Sps w v ps := by
  obtain ⟨vs, h1, h2, h3⟩ := h
  rcases h2.2 with ⟨e, h0⟩ | ⟨g, cap, cur, e, _⟩
  · exact ⟨none, 0, by rw [e, h0], .inl (List.length_eq_zero_iff.1 h0)⟩
  · subst e
    refine ⟨_, cap, rfl, .inr ⟨g, 0, rfl, fun i hi => ⟨vs.getD i undef, ?_, (h3 i hi).sl⟩⟩⟩
    rw [Nat.zero_add, World.ownsRow.cellAt h2 i (by omega)]
    simp [show i < vs.length by omega]
theorem list_eq_iff {ps qs : List (List Int)} (hl : ps.length = qs.length) (h : ∀ i, i < ps.length → ps.getD i [] = qs.getD i []) : ps = qs := by
  apply List.ext_getElem hl
  intro i h1 h2
  have := h i h1
  simpa [h1, h2] using this

set_option maxRecDepth 100000 in
set_option maxHeartbeats 2000000 in
theorem refSame_any (u v : Value) (ps qs : List (List Int)) (w : World) (h1 : Sps w u ps) (h2 : Sps w v qs) (hn : ps.length ≤ 1000000) (hx : ∀ i, i < ps.length → (ps.getD i []).length ≤ 1000000) (hy : ∀ i, i < qs.length → (qs.getD i []).length ≤ 1000000) :
    Calls Try.prog 18 #[u, v] w fun e w' => ∃ r, e = .returned (.bool r) ∧ Says r (ps = qs) ∧ Below w.heap.size w w' := by
  obtain ⟨a1, c1, rfl, h1⟩ := h1
  obtain ⟨a2, c2, rfl, h2⟩ := h2
  obtain ⟨n, hn0⟩ : ∃ n, n = ps.length := ⟨_, rfl⟩
  obtain ⟨m, hm0⟩ : ∃ m, m = qs.length := ⟨_, rfl⟩
  have HN := Lib.hid hn0
  have HM := Lib.hid hm0
  have HX := Lib.hid hx
  have HY := Lib.hid hy
  rw [← hn0] at hn
  rw [← hn0, ← hm0]
  by_cases hlen : n = m
  · have D : ((n : Int) != (m : Int)) = false := by rw [hlen]; simp
    by_cases hz : n = 0
    · have HE := Lib.hid (show Says true (ps = qs) from Says.yes (by
        rw [List.length_eq_zero_iff.1 (hn0.symm.trans hz), List.length_eq_zero_iff.1 (hm0.symm.trans (hlen.symm.trans hz))]))
      have HLn := Lib.hid hlen
      clear h1 h2 hx hy hn0 hm0 hlen
      go_enter Try.func18, Try.ntmps18
      go_wp2_with fail
      go_loopw [5] (fun i wr => i = .int .i64 0 ∧ Hid (wr = w)) (fun _ _ => 0)
      case atStart => exact ⟨rfl, Lib.hid rfl⟩
      case round =>
        obtain ⟨rfl, HW⟩ := hrel
        go_wp2_with fail
        go_ret
        exact ⟨true, rfl, HE.out, by rw [HW.out]; exact Below.refl _ _⟩
    · rcases h1 with h1 | ⟨b1, o1, rfl, h1⟩
      · rw [h1] at hn0; exact absurd hn0 hz
      rcases h2 with h2 | ⟨b2, o2, rfl, h2⟩
      · rw [h2] at hm0; exact absurd (hlen.trans hm0) hz
      have H1 := Lib.hid h1
      have H2 := Lib.hid h2
      obtain ⟨x0, g0, _⟩ := h1 0 (by omega)
      obtain ⟨y0, k0, _⟩ := h2 0 (by omega)
      have hb1 : b1 < w.heap.size := World.block_lt_of_cell? w _ g0
      have hb2 : b2 < w.heap.size := World.block_lt_of_cell? w _ k0
      have HLn := Lib.hid hlen
      clear h1 h2 hx hy hn0 hm0 hz g0 k0 hlen
      go_enter Try.func18, Try.ntmps18
      go_wp2_with fail
      go_loopw [5] (fun i wr => ∃ k : Nat, i = .int .i64 k ∧ k ≤ n ∧ Hid (∀ i, i < k → ps.getD i [] = qs.getD i []) ∧ Hid (Below w.heap.size w wr)) (fun i _ => n - (intOf i).toNat)
      case atStart => exact ⟨0, rfl, Nat.zero_le _, Lib.hid (fun i hi => by omega), Lib.hid (Below.refl _ _)⟩
      case round =>
        obtain ⟨k, rfl, hk, HE, HB⟩ := hrel
        by_cases hlt : k < n
        · have hlm : k < m := by have := HLn.out; omega
          obtain ⟨x, g1, s1⟩ := H1.out k (by rw [← HN.out]; exact hlt)
          obtain ⟨y, g2, s2⟩ := H2.out k (by rw [← HM.out]; exact hlm)
          have g1' : wr.cell? ⟨b1, o1 + k, none⟩ = some x := (HB.out.cell (p := ⟨b1, o1 + k, none⟩) hb1).trans g1
          have g2' : wr.cell? ⟨b2, o2 + k, none⟩ = some y := (HB.out.cell (p := ⟨b2, o2 + k, none⟩) hb2).trans g2
          have s1' := s1.below HB.out
          have s2' := s2.below HB.out
          have lx := HX.out k (by rw [← HN.out]; exact hlt)
          have ly := HY.out k (by rw [← HM.out]; exact hlm)
          obtain ⟨r0, hr0⟩ : ∃ r0, r0 = decide (ps.getD k [] = qs.getD k []) := ⟨_, rfl⟩
          have HCall := Lib.hid (show ∀ j, Calls Try.prog 42 #[x, y] (wr.drewN j) fun e w'' => e = .returned (.bool r0) ∧ ∃ i, w'' = (wr.drewN j).drewN i from fun j => by
            rw [hr0]
            exact same_any _ _ _ _ _ (s1'.below (below_drewN' (Below.refl _ _) j)) (s2'.below (below_drewN' (Below.refl _ _) j)) lx ly)
          have HR0 := Lib.hid hr0
          have HLt := Lib.hid hlt
          obtain ⟨xa, xc, rfl, _⟩ := s1'
          obtain ⟨ya, yc, rfl, _⟩ := s2'
          clear g1 g2 s1 s2 lx ly hr0
          cases r0 with
          | true =>
            have HE2 := Lib.hid (show ∀ i, i < k + 1 → ps.getD i [] = qs.getD i [] from fun i hi => by
              by_cases e : i = k
              · subst e; exact of_decide_eq_true HR0.out.symm
              · exact HE.out i (by omega))
            go_wp2_with fail
            go_quiet ((go_at_call 42; exact Calls.quiet_of (HCall.out _)))
            go_wp2_with fail
            go_roundw
            case rel => exact ⟨k + 1, by go_num, by omega, HE2, Lib.hid (below_drewN' HB.out nq)⟩
            case measure => simp [intOf]; omega
          | false =>
            have HS := Lib.hid (show Says false (ps = qs) from Says.no fun e => by
              have := of_decide_eq_false HR0.out.symm
              rw [e] at this; exact this rfl)
            go_wp2_with fail
            go_quiet ((go_at_call 42; exact Calls.quiet_of (HCall.out _)))
            go_wp2_with fail
            go_ret
            exact ⟨false, rfl, HS.out, below_drewN' HB.out nq⟩
        · have HS := Lib.hid (show Says true (ps = qs) from Says.yes (list_eq_iff (by rw [← HN.out, ← HM.out]; exact HLn.out) (fun i hi => HE.out i (by rw [← HN.out] at hi; omega))))
          go_wp2_with fail
          go_ret
          exact ⟨true, rfl, HS.out, HB.out⟩
  · have D : ((n : Int) != (m : Int)) = true := by simp; omega
    have HE := Lib.hid (show Says false (ps = qs) from Says.no fun e => hlen (by rw [hn0, hm0, e]))
    clear h1 h2 hx hy hn0 hm0 hlen
    go_enter Try.func18, Try.ntmps18
    go_wp2_with fail
    go_ret
    exact ⟨false, rfl, HE.out, Below.refl _ _⟩
end Go.Proofs.Ytjnjhfificpbbaa
namespace Go.Proofs.Ytjnjhfificpbbaa
open Go Go.RowKit

theorem asc_uniq : ∀ {L M : List (List Int)}, L.Nodup → M.Nodup → Asc L → Asc M → (∀ a, a ∈ L ↔ a ∈ M) → L = M
  | [], [], _, _, _, _, _ => rfl
  | [], y :: M, _, _, _, _, h => absurd ((h y).2 (by simp)) (by simp)
  | x :: L, [], _, _, _, _, h => absurd ((h x).1 (by simp)) (by simp)
  | x :: L, y :: M, nl, nm, al, am, h => by
    rw [List.nodup_cons] at nl nm
    unfold Asc at al am
    rw [List.pairwise_cons] at al am
    have hxy : x = y := by
      rcases List.mem_cons.1 ((h x).1 (by simp)) with e | e
      · exact e
      · rcases List.mem_cons.1 ((h y).2 (by simp)) with e' | e'
        · exact e'.symm
        · exact cmpLex_total x y (am.1 x e) (al.1 y e')
    subst hxy
    rw [asc_uniq nl.2 nm.2 al.2 am.2 (fun a => by
      constructor
      · intro ha
        rcases List.mem_cons.1 ((h a).1 (by simp [ha])) with e | e
        · rw [e] at ha; exact absurd ha nl.1
        · exact e
      · intro ha
        rcases List.mem_cons.1 ((h a).2 (by simp [ha])) with e | e
        · rw [e] at ha; exact absurd ha nm.1
        · exact e)]
/-- two literal permutations in a row -/
theorem two_sps (w : World) (p q : List Int) (hp : p.length ≤ 7) (hq : q.length ≤ 7) :
    Sps (((w.alloc (.cells (ints p) 3)).alloc (.cells (ints q) 3)).alloc (.cells #[.slice (some ⟨w.heap.size, 0, none⟩) p.length p.length, .slice (some ⟨w.heap.size + 1, 0, none⟩) q.length q.length] 32)) (.slice (some ⟨w.heap.size + 2, 0, none⟩) 2 2) [p, q] := by
  have b1 := ((Blk.new w 3 (ints p)).alloc (.cells (ints q) 3)).alloc (.cells #[.slice (some ⟨w.heap.size, 0, none⟩) p.length p.length, .slice (some ⟨w.heap.size + 1, 0, none⟩) q.length q.length] 32)
  have b2 := (Blk.new (w.alloc (.cells (ints p) 3)) 3 (ints q)).alloc (.cells #[.slice (some ⟨w.heap.size, 0, none⟩) p.length p.length, .slice (some ⟨w.heap.size + 1, 0, none⟩) q.length q.length] 32)
  have b3 := Blk.new ((w.alloc (.cells (ints p) 3)).alloc (.cells (ints q) 3)) 32 #[.slice (some ⟨w.heap.size, 0, none⟩) p.length p.length, .slice (some ⟨w.heap.size + 1, 0, none⟩) q.length q.length]
  rw [World.size_alloc] at b2
  rw [World.size_alloc, World.size_alloc] at b3
  refine ⟨_, 2, rfl, .inr ⟨_, 0, rfl, fun i hi => ?_⟩⟩
  match i, hi with
  | 0, _ => exact ⟨_, b3.cell 0, (Ow.of_blk (B := 0) b1 (Nat.zero_le _) (by omega) _ rfl).sl⟩
  | 1, _ => exact ⟨_, b3.cell 1, (Ow.of_blk (B := 0) b2 (Nat.zero_le _) (by omega) _ rfl).sl⟩
theorem ga5 : GenP [[1, 2, 3, 4, 0], [1, 2, 0, 3, 4]] := ⟨by decide, by decide, by decide +kernel⟩
theorem gs4 : GenP [[1, 2, 3, 0], [1, 0, 2, 3]] := ⟨by decide, by decide, by decide +kernel⟩
theorem pa5 : pks [[1, 2, 3, 4, 0], [1, 2, 0, 3, 4]] = a5g := by decide +kernel
theorem ps4 : pks [[1, 2, 3, 0], [1, 0, 2, 3]] = s4g := by decide +kernel
/-- the group that Close hands back, as a list of permutations -/
theorem close_back {ps L : List (List Int)} {B : Nat} {x : Value} {w : World} (hg : GenP ps) (hp : PermsOf B (ps.getD 0 []).length L x w) (hn : L.Nodup) (hm : ∀ a, a ∈ L ↔ Gen (pks ps) a) :
    ∃ L', L'.Perm L ∧ Asc L' ∧ L'.Nodup ∧ Owp B w x (L'.map (List.take (ps.getD 0 []).length)) ∧ IsGrp (L'.map (List.take (ps.getD 0 []).length)) ∧ pks (L'.map (List.take (ps.getD 0 []).length)) = L' ∧ ((L'.map (List.take (ps.getD 0 []).length)).getD 0 []).length = (ps.getD 0 []).length := by
  obtain ⟨L', h1, h2, h3⟩ := hp
  have h0 := (validL_iff _).1 (hg.2.2 0 hg.1).1
  obtain ⟨e1, e2, e3⟩ := back_grp h0.2.1 hg.els hm hn h1 h2 (fun a ha => gen_pk hg ((hm a).1 ha))
  exact ⟨L', h1, h2, h1.nodup_iff.2 hn, h3, e1, e2, e3⟩
theorem IsGrp.small {ps : List (List Int)} (h : IsGrp ps) : ∀ i, i < ps.length → (ps.getD i []).length ≤ 1000000 := fun i hi => by
  have h1 := h.1.2.2 i hi
  have := h.seven
  omega
end Go.Proofs.Ytjnjhfificpbbaa
namespace Go.Proofs.Ytjnjhfificpbbaa
open Go Go.RowKit

/-- each list's length, at its place in the row -/
theorem vrow_at {B g k cap n : Nat} {w : World} {xs : List Value} {Ls : List (List (List Int))} (h : VRow B w (.slice (some ⟨g, 0, none⟩) k cap) xs) (hl : xs.length = Ls.length) (hp : ∀ i, i < Ls.length → PermsOf B n (Ls.getD i []) (xs.getD i undef) w) {i : Nat} (hi : i < Ls.length) :
    ∃ a c, w.cell? ⟨g, i, none⟩ = some (.slice a (Ls.getD i []).length c) := by
  have hk : k = xs.length := by
    rcases h.2 with ⟨e, _⟩ | ⟨g, cap, cur, e, _⟩
    · cases e
    · cases e; rfl
  subst hk
  obtain ⟨L', h1, _, vs, h2, h3, _⟩ := hp i hi
  rw [List.length_map] at h3
  have hc := World.ownsRow.cellAt h i (by omega)
  rw [List.getElem?_eq_getElem (by omega)] at hc
  have he : xs.getD i undef = xs[i]'(by omega) := by simp [show i < xs.length by omega]
  rw [he] at h3
  rcases h3.2 with ⟨e, h0⟩ | ⟨g', cap', cur, e, _⟩
  · exact ⟨none, 0, by rw [hc, e, ← h1.length_eq, h0]⟩
  · exact ⟨_, _, by rw [hc, e, h1.length_eq]⟩

set_option maxRecDepth 100000 in
set_option maxHeartbeats 4000000 in
theorem alive_any (w : World) : Calls Try.prog 14 #[] w fun e w' => e = .returned (.bool true) ∧ Below w.heap.size w w' := by
  go_enter Try.func14, Try.ntmps14
  go_wp2_with fail
  refine (Close_any _ [[1, 2, 3, 4, 0], [1, 2, 0, 3, 4]] _ (two_sps w [1, 2, 3, 4, 0] [1, 2, 0, 3, 4] (by decide) (by decide)) (by decide)).mono ?_
  have hb0 := (((Below.refl w.heap.size w).alloc (Nat.le_refl _) (.cells (ints [1, 2, 3, 4, 0]) 3)).alloc (by simp) (.cells (ints [1, 2, 0, 3, 4]) 3)).alloc (by simp; omega) (.cells #[.slice (some ⟨w.heap.size, 0, none⟩) 5 5, .slice (some ⟨w.heap.size + 1, 0, none⟩) 5 5] 32)
  rintro e w1 ⟨hb1, ⟨hf, _⟩ | ⟨hg, x, L, rfl, hp, hnd, hm⟩⟩
  · exact absurd ga5 hf
  obtain ⟨L', p1, p2, p3, p4, p5, p6, p7⟩ := close_back ga5 hp hnd hm
  have hmem : ∀ a, a ∈ L' ↔ a ∈ a5 := fun a => by rw [p1.mem_iff, hm a, pa5]; exact (a5_mem a).symm
  obtain ⟨l, hl⟩ : ∃ l, l = L'.map (List.take ([[1, 2, 3, 4, 0], [1, 2, 0, 3, 4]].getD 0 ([] : List Int)).length) := ⟨_, rfl⟩
  rw [← hl] at p4 p5 p6 p7
  have hl60 : l.length = 60 := by rw [hl, List.length_map, len_same p3 a5_nd hmem, a5_len]
  have HB1 := Lib.hid (hb0.trans (hb1.mono hb0.size))
  have HS1 := Lib.hid p4.sps
  have HI1 := Lib.hid p5
  have HD1 := Lib.hid (show ∀ K, IsDer (pks l) K → ∀ a, a ∈ K ↔ a ∈ L' from fun K hd a => by
    rw [p6] at hd
    exact ((hd.same hmem).uniq a5_der a).trans (hmem a).symm)
  have H7 := Lib.hid p7
  have HAsc := Lib.hid p2
  have HNd := Lib.hid p3
  have HL := Lib.hid hl
  obtain ⟨xa, xc, rfl, _⟩ := p4.sps
  have H60 := Lib.hid hl60
  have HSm := Lib.hid p5.small
  clear hb0 hb1 hg hp hnd hm p1 p2 p3 p4 p5 p6 p7 hmem hl
  rw [hl60] at HS1 ⊢
  clear hl60
  go_wp2_with fail
  refine (Derived_any _ l _ HS1.out HSm.out).mono ?_
  rintro e w2 ⟨hb2, ⟨hf, _⟩ | ⟨hg, y, K, rfl, hp, hnd, hd⟩⟩
  · exact absurd HI1.out hf
  obtain ⟨K', q1, q2, q3⟩ := hp
  have hKL : K' = L' := by
    obtain ⟨L'', hL''⟩ : ∃ L'', L'' = L' := ⟨_, rfl⟩
    exact asc_uniq (q1.nodup_iff.2 hnd) HNd.out q2 HAsc.out (fun a => q1.mem_iff.trans (HD1.out K hd a))
  have hKl : K'.map (List.take (l.getD 0 []).length) = l := by rw [hKL, H7.out, HL.out]
  rw [hKl] at q3
  have HS2 := Lib.hid q3.sps
  have HB2 := Lib.hid (HB1.out.trans (hb2.mono HB1.out.size))
  have HS12 := Lib.hid (HS1.out.below hb2)
  obtain ⟨ya, yc, rfl, _⟩ := q3.sps
  clear hb2 hg q1 q2 q3 hnd hd hKL hKl
  rw [H60.out] at HS2 ⊢
  go_wp2_with fail
  refine (Close_any _ [[1, 2, 3, 0], [1, 0, 2, 3]] _ (two_sps w2 [1, 2, 3, 0] [1, 0, 2, 3] (by decide) (by decide)) (by decide)).mono ?_
  have hb3 := (((Below.refl w2.heap.size w2).alloc (Nat.le_refl _) (.cells (ints [1, 2, 3, 0]) 3)).alloc (by simp) (.cells (ints [1, 0, 2, 3]) 3)).alloc (by simp; omega) (.cells #[.slice (some ⟨w2.heap.size, 0, none⟩) 4 4, .slice (some ⟨w2.heap.size + 1, 0, none⟩) 4 4] 32)
  rintro e w4 ⟨hb4, ⟨hf, _⟩ | ⟨hg, z, M, rfl, hp, hnd, hm⟩⟩
  · exact absurd gs4 hf
  obtain ⟨M', p1, p2, p3, p4, p5, p6, p7⟩ := close_back gs4 hp hnd hm
  have hmem : ∀ a, a ∈ M' ↔ a ∈ s4 := fun a => by rw [p1.mem_iff, hm a, ps4]; exact (s4_mem a).symm
  obtain ⟨q, hq⟩ : ∃ q, q = M'.map (List.take ([[1, 2, 3, 0], [1, 0, 2, 3]].getD 0 ([] : List Int)).length) := ⟨_, rfl⟩
  rw [← hq] at p4 p5 p6 p7
  have hb24 := hb3.trans (hb4.mono hb3.size)
  have HB4 := Lib.hid (HB2.out.trans (hb24.mono HB2.out.size))
  have HS14 := Lib.hid (HS12.out.below hb24)
  have HS24 := Lib.hid (HS2.out.below hb24)
  have HS4 := Lib.hid p4.sps
  have HI4 := Lib.hid p5
  have HSm4 := Lib.hid p5.small
  have HP4 := Lib.hid (show ∀ x, x ∈ pks q ↔ x ∈ s4 from fun x => by rw [p6]; exact hmem x)
  obtain ⟨za, zc, rfl, _⟩ := p4.sps
  clear hb3 hb4 hb24 hg hp hnd hm p1 p2 p3 p4 p5 p6 p7 hmem hq HS12 HS2
  go_wp2_with fail
  refine (Series_any _ q _ HS4.out HSm4.out).mono ?_
  rintro e w5 ⟨hb5, ⟨hf, _⟩ | ⟨hg, u, xs, Ls, rfl, hs, hxl, hv, hps⟩⟩
  · exact absurd HI4.out hf
  have hlens := s4_series hs HP4.out
  have hn4 : Ls.length = 4 := by have := congrArg List.length hlens; simpa using this
  have hget : ∀ i, i < 4 → (Ls.getD i []).length = ([24, 12, 4, 1] : List Nat).getD i 0 := fun i hi => by
    rw [← hlens]; simp [show i < Ls.length by omega]
  obtain ⟨g, cap, rfl⟩ : ∃ g cap, u = .slice (some ⟨g, 0, none⟩) xs.length cap := by
    rcases hv.2 with ⟨_, h0⟩ | ⟨g, cap, _, e, _⟩
    · omega
    · exact ⟨g, cap, e⟩
  obtain ⟨a0, k0, v0⟩ := vrow_at hv hxl hps (i := 0) (by omega)
  obtain ⟨a1, k1, v1⟩ := vrow_at hv hxl hps (i := 1) (by omega)
  obtain ⟨a2, k2, v2⟩ := vrow_at hv hxl hps (i := 2) (by omega)
  obtain ⟨a3, k3, v3⟩ := vrow_at hv hxl hps (i := 3) (by omega)
  rw [hget 0 (by omega)] at v0
  rw [hget 1 (by omega)] at v1
  rw [hget 2 (by omega)] at v2
  rw [hget 3 (by omega)] at v3
  simp at v0 v1 v2 v3
  rw [hxl, hn4]
  have HB5 := Lib.hid (HB4.out.trans (hb5.mono HB4.out.size))
  have HS15 := Lib.hid (HS14.out.below hb5)
  have HS25 := Lib.hid (HS24.out.below hb5)
  have HCall := Lib.hid (show Calls Try.prog 18 #[.slice xa 60 xc, .slice ya 60 yc] w5 fun e w' => e = .returned (.bool true) ∧ Below w5.heap.size w5 w' from
    (refSame_any _ _ l l w5 HS15.out HS25.out (by rw [H60.out]; omega) HSm.out HSm.out).mono fun e w' ⟨r, he, hr, hb⟩ => ⟨by rw [he, hr.2 rfl], hb⟩)
  clear hb5 hg hs hv hps hlens hget HS14 HS24
  go_wp2_with fail
  refine HCall.out.mono ?_
  rintro e w6 ⟨rfl, hb6⟩
  have u0 := (hb6.cell (p := ⟨g, 0, none⟩) (World.block_lt_of_cell? w5 _ v0)).trans v0
  have u1 := (hb6.cell (p := ⟨g, 1, none⟩) (World.block_lt_of_cell? w5 _ v1)).trans v1
  have u2 := (hb6.cell (p := ⟨g, 2, none⟩) (World.block_lt_of_cell? w5 _ v2)).trans v2
  have u3 := (hb6.cell (p := ⟨g, 3, none⟩) (World.block_lt_of_cell? w5 _ v3)).trans v3
  have HB6 := Lib.hid (HB5.out.trans (hb6.mono HB5.out.size))
  clear hb6 v0 v1 v2 v3
  go_wp2_with fail
  go_ret
  exact ⟨rfl, HB6.out⟩
end Go.Proofs.Ytjnjhfificpbbaa
namespace Go.Proofs.Ytjnjhfificpbbaa
open Go Go.RowKit Go.Deep
open Go.ChangeShapes Go.WideShapes

/-- lists of permutations as they come in: whatever lengths Go allows -/
def InPs (w : World) (v : Value) (gs : List (List Int)) : Prop := Sps w v gs ∧ gs.length ≤ 9223372036854775807 ∧ ∀ i, i < gs.length → (gs.getD i []).length ≤ 9223372036854775807

theorem cells32 : Try.prog.cellsOf 32 = 1 := by kernel_rfl
theorem cells3 : Try.prog.cellsOf 3 = 1 := by kernel_rfl
theorem in_ps {H : Type} {enc : TypeId × Value → H} {W : World} {a : Option Addr} {len cap : Nat} {d : DataW H} {p : List MemPlace} (h : DataW.Trod enc Try.prog W 0 (fun _ => true) true 22 (.slice a len cap) d p) : ∃ gs, InPs W (.slice a len cap) gs := by
  obtain ⟨fuel, hf⟩ := h
  rcases open_int_rows Try.underlying22 Try.underlying32 Try.underlying3 cells32 cells3 hf with ⟨hcs, _⟩ | ⟨ad, l, c, A, L, C, Z, hcs, _, hl, hm, _, hr⟩
  · simp [Value.cells] at hcs
    obtain ⟨rfl, rfl, rfl⟩ := hcs
    exact ⟨[], ⟨none, 0, rfl, .inl rfl⟩, Nat.zero_le _, fun i hi => by simp at hi⟩
  · simp [Value.cells] at hcs
    obtain ⟨rfl, rfl, rfl⟩ := hcs
    have hm' : cap ≤ 9223372036854775807 := hm
    have hlen : ∀ r, r < len → ((Z r).take (L r)).length = L r := fun r hr' => by
      obtain ⟨_, h1, _, h2, _⟩ := hr r (by omega)
      rw [List.length_take]; omega
    have hget : ∀ i, i < len → ((List.range len).map fun r => (Z r).take (L r)).getD i [] = (Z i).take (L i) := fun i hi => by simp [hi]
    refine ⟨(List.range len).map fun r => (Z r).take (L r), ?_, by rw [List.length_map, List.length_range]; omega, fun i hi => ?_⟩
    · refine ⟨some ad, cap, by rw [List.length_map, List.length_range], ?_⟩
      by_cases h0 : len = 0
      · subst h0; exact .inl rfl
      · refine .inr ?_
        obtain ⟨b, off, spot⟩ := ad
        have hs : spot = none := by simpa [Addr.add] using World.cell?_spot (hr 0 (by omega)).1
        subst hs
        refine ⟨b, off, rfl, fun i hi => ?_⟩
        rw [List.length_map, List.length_range] at hi
        obtain ⟨e1, h1, h2, h3, _, h4, h5⟩ := hr i (by omega)
        refine ⟨_, by rw [← add_plain]; exact e1, ?_⟩
        rw [hget i hi]
        refine ⟨A i, C i, by rw [hlen i hi], ?_⟩
        by_cases hz : L i = 0
        · exact .inl (by rw [hz, List.take_zero])
        · cases hA : A i with
          | none => have := h4 hA; omega
          | some a' =>
            obtain ⟨_, h6⟩ := h5 a' hA
            obtain ⟨b', o', s'⟩ := a'
            have hs : s' = none := by simpa [Addr.add] using World.cell?_spot (h6 0 (by omega))
            subst hs
            refine .inr ⟨b', o', rfl, fun j hj => ?_⟩
            rw [hlen i hi] at hj
            rw [← add_plain, h6 j (by omega)]
            simp [List.getD_eq_getElem?_getD, List.getElem?_take_of_lt hj]
    · rw [List.length_map, List.length_range] at hi
      rw [hget i hi, hlen i hi]
      obtain ⟨_, h1, h2, _⟩ := hr i (by omega)
      have : C i ≤ 9223372036854775807 := h2
      omega
theorem in_p {H : Type} {enc : TypeId × Value → H} {W : World} {a : Option Addr} {len cap : Nat} {d : DataW H} {p : List MemPlace} (h : DataW.Trod enc Try.prog W 0 (fun _ => true) true 32 (.slice a len cap) d p) : ∃ z, Sl W (.slice a len cap) z ∧ z.length ≤ 9223372036854775807 := by
  obtain ⟨fuel, hf⟩ := h
  rcases open_ints Try.underlying32 Try.underlying3 cells3 hf with ⟨hcs, _⟩ | ⟨x, l, c, zs, hcs, _, hl, hm, hz, _, hcell, _⟩
  · simp [Value.cells] at hcs
    obtain ⟨rfl, rfl, rfl⟩ := hcs
    exact ⟨[], Sl.nil _, Nat.zero_le _⟩
  · simp [Value.cells] at hcs
    obtain ⟨rfl, rfl, rfl⟩ := hcs
    have hz' : zs.length = cap := by simpa using hz
    have hm' : cap ≤ 9223372036854775807 := hm
    have hlen : (zs.take len).length = len := by rw [List.length_take]; omega
    refine ⟨zs.take len, ⟨some x, cap, by rw [hlen], ?_⟩, by rw [hlen]; omega⟩
    by_cases h0 : len = 0
    · subst h0; exact .inl rfl
    · obtain ⟨b, off, spot⟩ := x
      have hs : spot = none := by simpa [Addr.add] using World.cell?_spot (hcell 0 (by omega))
      subst hs
      refine .inr ⟨b, off, rfl, fun j hj => ?_⟩
      rw [hlen] at hj
      rw [← add_plain, hcell j (by omega)]
      simp [List.getD_eq_getElem?_getD, List.getElem?_take_of_lt hj]

/-- at most so many lists, of at most 100 points each -/
def FewP (gs : List (List Int)) (most : Nat) : Prop := gs.length ≤ most ∧ ∀ i, i < gs.length → (gs.getD i []).length ≤ 100

set_option maxRecDepth 100000 in
set_option maxHeartbeats 1000000 in
theorem few_any (v : Value) (gs : List (List Int)) (most : Nat) (w : World) (h : InPs w v gs) (hm : most ≤ 1000000) :
    Calls Try.prog 13 #[v, .int .i64 most] w fun e w' => ∃ r, e = .returned (.bool r) ∧ Says r (FewP gs most) ∧ w' = w := by
  obtain ⟨⟨a, cap, rfl, h⟩, hl, hx⟩ := h
  obtain ⟨n, hn⟩ : ∃ n, n = gs.length := ⟨_, rfl⟩
  have HN := Lib.hid hn
  rw [← hn] at hl ⊢
  by_cases h1 : most < n
  · have HS := Lib.hid (show Says false (FewP gs most) from Says.no fun hp => by have := hp.1; omega)
    clear h hx hn
    go_enter Try.func13, Try.ntmps13
    go_wp2_with fail
    go_ret
    exact ⟨false, rfl, HS.out, rfl⟩
  have HC := Lib.hid h
  have HX := Lib.hid hx
  clear h hx hn
  go_enter Try.func13, Try.ntmps13
  go_wp2_with fail
  go_loop [5] (fun i => ∃ k : Nat, i = .int .i64 k ∧ k ≤ n ∧ Hid (∀ i, i < k → (gs.getD i []).length ≤ 100)) (fun i => n - (intOf i).toNat)
  case atStart => exact ⟨0, rfl, Nat.zero_le _, Lib.hid (fun i hi => by omega)⟩
  case round =>
    obtain ⟨k, rfl, hk, HT⟩ := hrel
    by_cases hlt : k < n
    · rcases HC.out with h | ⟨b, off, rfl, h⟩
      · have := HN.out; rw [h] at this; simp at this; omega
      obtain ⟨x, g1, s1⟩ := h k (by rw [← HN.out]; exact hlt)
      obtain ⟨xa, xc, rfl, _⟩ := s1
      have hxk := HX.out k (by rw [← HN.out]; exact hlt)
      obtain ⟨m, hm0⟩ : ∃ m, m = (gs.getD k []).length := ⟨_, rfl⟩
      rw [← hm0] at g1 hxk
      have HM := Lib.hid hm0
      have HLt := Lib.hid hlt
      clear h hm0
      by_cases h100 : 100 < m
      · have HS := Lib.hid (show Says false (FewP gs most) from Says.no fun hp => by
          have := hp.2 k (by rw [← HN.out]; exact HLt.out)
          rw [← HM.out] at this; omega)
        go_wp2_with fail
        go_ret
        exact .inl ⟨rfl, HS.out, rfl⟩
      · have HT2 := Lib.hid (show ∀ i, i < k + 1 → (gs.getD i []).length ≤ 100 from fun i hi => by
          by_cases e : i = k
          · subst e; rw [← HM.out]; omega
          · exact HT.out i (by omega))
        go_wp2_with fail
        go_round
        case rel => exact ⟨k + 1, by go_num, by omega, HT2⟩
        case measure => simp [intOf]; omega
    · have HS := Lib.hid (show Says true (FewP gs most) from Says.yes ⟨by rw [← HN.out]; omega, fun i hi => HT.out i (by rw [← HN.out] at hi; omega)⟩)
      go_wp2_with fail
      go_ret
      exact .inr ⟨rfl, HS.out, rfl⟩
end Go.Proofs.Ytjnjhfificpbbaa
