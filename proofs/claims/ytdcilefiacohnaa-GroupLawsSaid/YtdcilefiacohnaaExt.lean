/- (*closed).extend. -/
import Derived.Test.YtdcilefiacohnaaClo
import Derived.Test.YtdcilefiacohnaaRange
import Derived.Deep.MidRow
namespace Go.Proofs.Ytdcilefiacohnaa
open Go Go.RowKit

theorem rowsV_get : ∀ (L : List (List Int)) (k j : Nat), (∀ x ∈ L, x.length = 7) → k < L.length → j < 7 → (rowsV L)[k * 7 + j]? = ((L.getD k []).map (Value.int .u8))[j]?
  | [], _, _, _, hk, _ => by cases hk
  | x :: L, 0, j, h, _, hj => by
    have hx := h x (by simp)
    simp only [rowsV, List.flatMap_cons, Nat.zero_mul, Nat.zero_add, List.getD_cons_zero]
    rw [List.getElem?_append_left (by rw [List.length_map, hx]; exact hj)]
  | x :: L, k + 1, j, h, hk, hj => by
    have hx := h x (by simp)
    have := rowsV_get L k j (fun y hy => h y (by simp [hy])) (by simpa using hk) hj
    simp only [rowsV, List.flatMap_cons, List.getD_cons_succ] at this ⊢
    rw [List.getElem?_append_right (by rw [List.length_map, hx]; omega), List.length_map, hx, show (k + 1) * 7 + j - 7 = k * 7 + j by omega]
    exact this

theorem Oel.range {B g cap : Nat} {w : World} {n : Nat} {L : List (List Int)} (h : Oel B w (.slice (some ⟨g, 0, none⟩) n cap) L) (hL : ∀ x ∈ L, x.length = 7) (k : Nat) (hk : k < L.length) : w.rangeAt g (k * 7) ((L.getD k []).map (Value.int .u8)) := by
  have hn : n = L.length := by
    rcases h.2 with ⟨e, _⟩ | ⟨g, cap, cur, e, _⟩
    · cases e
    · cases e; rfl
  subst hn
  intro j v hv
  have hx : (L.getD k []).length = 7 := hL _ (by rw [List.getD_eq_getElem?_getD, List.getElem?_eq_getElem hk]; exact List.getElem_mem hk)
  have hj : j < 7 := by
    have := (List.getElem?_eq_some_iff.1 hv).1
    rw [List.length_map, hx] at this; exact this
  rw [World.ownsRow.cellAt h (k * 7 + j) (by omega), rowsV_get L k j hL hk hj]
  exact hv
/-- a row of at least one element is a slice of its own block -/
theorem Oel.form {B : Nat} {w : World} {v : Value} {L : List (List Int)} (h : Oel B w v L) (hn : 0 < L.length) : ∃ g cap, v = .slice (some ⟨g, 0, none⟩) L.length cap := by
  rcases h.2 with ⟨_, h⟩ | ⟨g, cap, cur, h, _⟩
  · omega
  · exact ⟨g, cap, h⟩
theorem Oel.slice {B : Nat} {w : World} {v : Value} {L : List (List Int)} (h : Oel B w v L) : ∃ a cap, v = .slice a L.length cap := by
  rcases h.2 with ⟨h, h0⟩ | ⟨g, cap, cur, h, _⟩
  · exact ⟨none, 0, by rw [h, h0]⟩
  · exact ⟨_, cap, h⟩

structure Clo (B : Nat) (w : World) (c m : Nat) (n : Int) (vg vl : Value) (G L : List (List Int)) : Prop where
  cells : Blk w c 75 #[.int .i64 n, vg, vl, .map (some m)]
  set : SetOf w m L
  rg : Oel B w vg G
  rl : Oel B w vl L
  cm : c ≠ m
  cg : some c ≠ vg.ownBlock
  mg : some m ≠ vg.ownBlock
  cl : some c ≠ vl.ownBlock
  ml : some m ≠ vl.ownBlock
  gl : vg.ownBlock = none ∨ vg.ownBlock ≠ vl.ownBlock
  base : B ≤ w.heap.size

theorem SetOf.same {w w' : World} {m : Nat} {L : List (List Int)} (h : SetOf w m L) (hb : w'.heap[m]? = w.heap[m]?) : SetOf w' m L := by
  obtain ⟨M, h1, h2, h3⟩ := h
  exact ⟨M, h1.same hb, h2, h3⟩
theorem SetOf.lt {w : World} {m : Nat} {L : List (List Int)} (h : SetOf w m L) : m < w.heap.size := by
  obtain ⟨M, h1, _⟩ := h
  exact h1.lt
theorem Oel.turns {B : Nat} {w w' : World} {v : Value} {L : List (List Int)} {priv : Nat → Prop} (h : Oel B w v L) (t : Turns priv w w') (hv : ∀ b, v.ownBlock = some b → ¬ priv b) : Oel B w' v L := by
  obtain ⟨h1, h2⟩ := h
  refine ⟨h1, ?_⟩
  rcases h2 with h2 | ⟨g, cap, cur, rfl, h3, h4, h5⟩
  · exact .inl h2
  · exact .inr ⟨g, cap, cur, rfl, h3, (t.block g (Array.getElem?_eq_some_iff.1 h4).1 (hv g rfl)).trans h4, h5⟩
theorem Clo.turns {B : Nat} {w w' : World} {c m : Nat} {n : Int} {vg vl : Value} {G L : List (List Int)} {priv : Nat → Prop} (h : Clo B w c m n vg vl G L) (t : Turns priv w w') (h1 : ¬ priv c) (h2 : ¬ priv m) (h3 : ∀ b, vg.ownBlock = some b → ¬ priv b) (h4 : ∀ b, vl.ownBlock = some b → ¬ priv b) : Clo B w' c m n vg vl G L :=
  { h with
    cells := (t.block c h.cells.lt h1).trans h.cells
    set := h.set.same (t.block m h.set.lt h2)
    rg := h.rg.turns t h3
    rl := h.rl.turns t h4
    base := Nat.le_trans h.base t.size }
theorem Clo.below {B : Nat} {w w' : World} {c m : Nat} {n : Int} {vg vl : Value} {G L : List (List Int)} (h : Clo B w c m n vg vl G L) (t : Below w.heap.size w w') : Clo B w' c m n vg vl G L :=
  h.turns (Turns.of_below (priv := fun _ => False) t) id id (fun _ _ => id) (fun _ _ => id)
theorem Turns.step {priv priv' : Nat → Prop} {a b d : World} (h : Turns priv a b) (k : Turns priv' b d) (hp : ∀ x, x < a.heap.size → priv' x → priv x) : Turns priv a d :=
  ⟨k.os.trans h.os, k.tape.trans h.tape, k.output.trans h.output, Nat.le_trans h.size k.size, fun x hx hn => (k.block x (Nat.lt_of_lt_of_le hx h.size) (fun hq => hn (hp x hx hq))).trans (h.block x hx hn)⟩

/-- add, in the words of Clo -/
theorem add_clo {B c m p : Nat} {n : Int} {vg vl : Value} {G L : List (List Int)} {e : List Int} {w : World} (h : Clo B w c m n vg vl G L) (he : E7 e) (hp : Blk w p 58 #[.pointer (some ⟨c, 0, none⟩)]) (hn : L.length ≤ 900000)
    (d1 : p ≠ c) (d2 : p ≠ m) (d3 : some p ≠ vl.ownBlock) :
    Calls Try.prog 92 #[.agg (u8s e), .pointer (some ⟨p, 0, none⟩)] w fun r w' => r = .returned (.tuple #[]) ∧ ∃ vl', Clo B w' c m n vg vl' G (addE L e) ∧ Blk w' p 58 #[.pointer (some ⟨c, 0, none⟩)] ∧
      Turns (fun b => b = c ∨ b = m ∨ some b = vl.ownBlock) w w' ∧ (vl'.ownBlock = vl.ownBlock ∨ ∃ g, vl'.ownBlock = some g ∧ w.heap.size ≤ g) := by
  refine (add_any B c m p n vg vl L e w he hp h.cells h.set h.rl hn h.base d1 d2 d3 h.cm h.cl h.ml).mono ?_
  rintro r w' ⟨rfl, vl', A⟩
  have t : Turns (fun b => b = c ∨ b = m ∨ some b = vl.ownBlock) w w' := ⟨A.os, A.tape, A.output, A.size, fun b hb hn => A.block b hb (fun e => hn (.inl e)) (fun e => hn (.inr (.inl e))) (fun e => hn (.inr (.inr e)))⟩
  have hgb : ∀ b, vg.ownBlock = some b → b < w.heap.size := fun b hb => (World.ownsRow.lt h.rg b hb).2
  refine ⟨rfl, vl', ⟨A.cells, A.set, h.rg.turns t (fun b hb hq => ?_), A.row, h.cm, h.cg, h.mg, ?_, ?_, ?_, Nat.le_trans h.base A.size⟩, (t.block p hp.lt (fun hq => ?_)).trans hp, t, A.at'⟩
  · rcases hq with e | e | e
    · exact h.cg (by rw [hb, e])
    · exact h.mg (by rw [hb, e])
    · rcases h.gl with h1 | h1
      · rw [h1] at hb; cases hb
      · exact h1 (by rw [hb, e])
  · rcases A.at' with e | ⟨g, e, hg⟩
    · rw [e]; exact h.cl
    · rw [e]; intro hq; have := Option.some.inj hq; have := h.cells.lt; omega
  · rcases A.at' with e | ⟨g, e, hg⟩
    · rw [e]; exact h.ml
    · rw [e]; intro hq; have := Option.some.inj hq; have := h.set.lt; omega
  · rcases A.at' with e | ⟨g, e, hg⟩
    · rw [e]; exact h.gl
    · rw [e]
      cases hv : vg.ownBlock with
      | none => exact .inl rfl
      | some b => exact .inr (fun hq => by have := Option.some.inj hq; have := hgb b hv; omega)
  · rcases hq with e | e | e
    · exact d1 e
    · exact d2 e
    · exact d3 e

/-- the list L is the group that the elements G generate -/
structure Grp (G L : List (List Int)) : Prop where
  nd : L.Nodup
  ng : G.Nodup
  sub : ∀ g ∈ G, g ∈ L
  els : Els L
  one : idL 7 ∈ L
  cls : ∀ a ∈ L, ∀ g ∈ G, mulL a g ∈ L
  gen : ∀ a ∈ L, Gen G a
theorem Grp.gels {G L : List (List Int)} (h : Grp G L) : Els G := fun g hg => h.els g (h.sub g hg)
theorem Grp.len {G L : List (List Int)} (h : Grp G L) : L.length ≤ 823543 := els_len h.nd (fun a ha => (h.els a ha).e7)
theorem Grp.glen {G L : List (List Int)} (h : Grp G L) : G.length ≤ 823543 := els_len h.ng (fun a ha => (h.gels a ha).e7)

theorem addE_mem {L : List (List Int)} {x a : List Int} (h : a ∈ L) : a ∈ addE L x := by
  unfold addE; split
  · exact h
  · exact List.mem_append.2 (.inl h)
theorem addE_self (L : List (List Int)) (x : List Int) : x ∈ addE L x := by
  unfold addE; split
  · assumption
  · simp
theorem addE_len (L : List (List Int)) (x : List Int) : L.length ≤ (addE L x).length := by
  unfold addE; split
  · exact Nat.le_refl _
  · simp
theorem addE_getD {L : List (List Int)} (x : List Int) {i : Nat} (h : i < L.length) : (addE L x).getD i [] = L.getD i [] := by
  unfold addE; split
  · rfl
  · rw [List.getD_eq_getElem?_getD, List.getElem?_append_left h, ← List.getD_eq_getElem?_getD]
theorem getD_mem {L : List (List Int)} {i : Nat} (h : i < L.length) : L.getD i [] ∈ L := by
  rw [List.getD_eq_getElem?_getD, List.getElem?_eq_getElem h]; exact List.getElem_mem h
/-- the search has passed k elements of the list Lk -/
structure Bfs (G L Lk : List (List Int)) (k : Nat) : Prop where
  nd : Lk.Nodup
  els : Els Lk
  sup : ∀ a ∈ L, a ∈ Lk
  gen : ∀ a ∈ Lk, Gen G a
  done : ∀ i, i < k → ∀ g ∈ G, mulL (Lk.getD i []) g ∈ Lk
  le : k ≤ Lk.length
theorem Bfs.len {G L Lk : List (List Int)} {k : Nat} (h : Bfs G L Lk k) : Lk.length ≤ 823543 := els_len h.nd (fun a ha => (h.els a ha).e7)
theorem Bfs.add {G L Lk : List (List Int)} {k : Nat} {x : List Int} (h : Bfs G L Lk k) (hx : El x) (hg : Gen G x) : Bfs G L (addE Lk x) k := by
  refine ⟨?_, ?_, fun a ha => addE_mem (h.sup a ha), ?_, fun i hi g hg' => ?_, Nat.le_trans h.le (addE_len _ _)⟩
  · unfold addE; split
    · exact h.nd
    · rename_i hn
      exact List.nodup_append.2 ⟨h.nd, by simp, fun a ha b hb hab => by rw [List.mem_singleton.1 hb] at hab; rw [hab] at ha; exact hn ha⟩
  · unfold addE; split
    · exact h.els
    · exact Els.snoc hx h.els
  · intro a ha
    unfold addE at ha
    split at ha
    · exact h.gen a ha
    · rcases List.mem_append.1 ha with e | e
      · exact h.gen a e
      · rw [List.mem_singleton.1 e]; exact hg
  · rw [addE_getD x (Nat.lt_of_lt_of_le hi h.le)]
    exact addE_mem (h.done i hi g hg')
theorem Bfs.next {G L Lk : List (List Int)} {k : Nat} (h : Bfs G L Lk k) (hk : k < Lk.length) (hd : ∀ t, t < G.length → mulL (Lk.getD k []) (G.getD t []) ∈ Lk) : Bfs G L Lk (k + 1) := by
  refine ⟨h.nd, h.els, h.sup, h.gen, fun i hi g hg => ?_, hk⟩
  by_cases e : i = k
  · subst e
    obtain ⟨t, ht, e2⟩ := List.getElem_of_mem hg
    have := hd t ht
    rw [show G.getD t [] = g by rw [List.getD_eq_getElem?_getD, List.getElem?_eq_getElem ht, e2]; rfl] at this
    exact this
  · exact h.done i (by omega) g hg
theorem Bfs.start {G L : List (List Int)} {e : List Int} (h : Grp G L) (he : El e) : Bfs (G ++ [e]) L L 0 :=
  ⟨h.nd, h.els, fun _ => id, fun a ha => (h.gen a ha).more (Els.snoc he h.gels), fun i hi => by omega, Nat.zero_le _⟩
theorem Bfs.end {G L Lk : List (List Int)} {e : List Int} (h : Bfs (G ++ [e]) L Lk Lk.length) (g : Grp G L) (he : El e) (hn : e ∉ L) : Grp (G ++ [e]) Lk := by
  have hcl : ∀ a ∈ Lk, ∀ g ∈ G ++ [e], mulL a g ∈ Lk := fun a ha x hx => by
    obtain ⟨i, hi, e2⟩ := List.getElem_of_mem ha
    have := h.done i hi x hx
    rw [show Lk.getD i [] = a by rw [List.getD_eq_getElem?_getD, List.getElem?_eq_getElem hi, e2]; rfl] at this
    exact this
  refine ⟨h.nd, ?_, fun x hx => ?_, h.els, h.sup _ g.one, hcl, h.gen⟩
  · exact List.nodup_append.2 ⟨g.ng, by simp, fun a ha b hb hab => by rw [List.mem_singleton.1 hb] at hab; rw [hab] at ha; exact hn (g.sub _ ha)⟩
  · rcases List.mem_append.1 hx with e1 | e1
    · exact h.sup _ (g.sub _ e1)
    · have := hcl _ (h.sup _ g.one) x hx
      rwa [(show El x by rw [List.mem_singleton.1 e1]; exact he).one_mul] at this

/-- what extend leaves -/
def ExtPost (B c m : Nat) (n : Int) (vg vl : Value) (G L : List (List Int)) (e : List Int) (w w' : World) : Prop :=
  ∃ vg' vl' G' L', Clo B w' c m n vg' vl' G' L' ∧ Grp G' L' ∧ G' = (if e ∈ L then G else G ++ [e]) ∧ (e ∈ L → L' = L) ∧ Turns (fun b => b = c ∨ b = m ∨ some b = vg.ownBlock ∨ some b = vl.ownBlock) w w' ∧
    (vg'.ownBlock = vg.ownBlock ∨ ∃ g, vg'.ownBlock = some g ∧ w.heap.size ≤ g) ∧ (vl'.ownBlock = vl.ownBlock ∨ ∃ g, vl'.ownBlock = some g ∧ w.heap.size ≤ g)

set_option maxRecDepth 100000 in
set_option maxHeartbeats 2000000 in
theorem extend_any {B c m : Nat} {n : Int} {vg vl : Value} {G L : List (List Int)} {e : List Int} {w : World} (h : Clo B w c m n vg vl G L) (g : Grp G L) (he : El e) :
    Calls Try.prog 77 #[.pointer (some ⟨c, 0, none⟩), .agg (u8s e)] w fun r w' => r = .returned (.tuple #[]) ∧ ExtPost B c m n vg vl G L e w w' := by
  have he7 := he.e7
  have b1 := Blk.new w 58 #[.pointer (some ⟨c, 0, none⟩)]
  have b2 := Blk.new (w.alloc (.cells #[.pointer (some ⟨c, 0, none⟩)] 58)) 78 (u8s e)
  rw [World.size_alloc] at b2
  have HB := Lib.hid (((Below.refl w.heap.size w).alloc (Nat.le_refl _) (.cells #[.pointer (some ⟨c, 0, none⟩)] 58)).alloc (by simp) (.cells (u8s e) 78))
  have HP := Lib.hid (b1.alloc (.cells (u8s e) 78))
  have HE := Lib.hid b2
  have HH := Lib.hid h
  have HG := Lib.hid g
  have HCl := Lib.hid (h.below HB.out)
  obtain ⟨M, hM1, hM2, hM3⟩ := HCl.out.set
  have HM := Lib.hid hM1
  have HMM := Lib.hid hM3
  clear b1 b2 h g hM1 hM2 hM3
  go_enter Try.func77, Try.ntmps77
  go_wp2
  generalize (w.alloc (.cells #[.pointer (some ⟨c, 0, none⟩)] 58)).alloc (.cells (u8s e) 78) = W at *
  refine wp_region_held_then (S := fun w' => Below W.heap.size W w') 6 (by kernel_rfl) (by kernel_rfl) ?_
  have hS : Below W.heap.size W W.drew := below_drewN' (Below.refl _ _) 1
  simp only [List.take_succ_cons, List.take_zero, List.drop_succ_cons, List.drop_zero]
  refine held_take (i := 0) (v := .pointer (some ⟨c, 0, none⟩)) rfl rfl (by kernel_rfl) (by kernel_rfl) (by kernel_rfl) (fun w' h => ?_) hS ?_
  · have h1 := (HP.out.below h).cell 0
    go_simp
  refine held_take (i := 1) (v := .pointer (some ⟨c, 0, none⟩)) rfl rfl (by kernel_rfl) (by kernel_rfl) (by kernel_rfl) (fun w' h => by go_simp) hS ?_
  refine held_take (i := 2) (v := .pointer (some ⟨c, 3, none⟩)) rfl rfl (by kernel_rfl) (by kernel_rfl) (by kernel_rfl) (fun w' h => by go_simp) hS ?_
  refine held_take (i := 3) (v := .map (some m)) rfl rfl (by kernel_rfl) (by kernel_rfl) (by kernel_rfl) (fun w' h => ?_) hS ?_
  · have h1 := (HCl.out.cells.below h).cell 3
    go_simp
  refine held_take (i := 4) (v := .agg (u8s e)) rfl rfl (by kernel_rfl) (by kernel_rfl) (by kernel_rfl) (fun w' h => run_row_op 78 _ rfl (w.heap.size + 1) rfl 78 (u8s e) (0, 0) _ (HE.out.below h) Try.underlying78 rfl (infoElem' he7.1)) hS ?_
  refine held_take (i := 5) (v := .bool (decide (e ∈ M))) rfl rfl (by kernel_rfl) (by kernel_rfl) (by kernel_rfl) (fun w' h => run_look_op _ _ rfl m M rfl (HM.out.below h) e rfl he7) hS ?_
  refine held_done (by kernel_rfl) ?_
  by_cases hin : e ∈ M
  · have hd : decide (e ∈ M) = true := by simp [hin]
    rw [hd]
    have HIN := Lib.hid hin
    have HS := Lib.hid hS
    clear hS hin hd
    go_simp
    go_wp2
    refine bodyPost_ret (results_none rfl _ _ _) rfl ?_
    have hb := HB.out.trans (HS.out.mono HB.out.size)
    have hL : e ∈ L := (HMM.out e).1 HIN.out
    exact ⟨rfl, vg, vl, G, L, HH.out.below hb, HG.out, by rw [if_pos hL], fun _ => rfl, Turns.of_below hb, .inl rfl, .inl rfl⟩
  · have hd : decide (e ∈ M) = false := by simp [hin]
    rw [hd]
    have HIN := Lib.hid (show e ∉ L from fun h => hin ((HMM.out e).2 h))
    clear hin hd HM HMM
    go_simp
    go_wp2
    obtain ⟨W3, hW3⟩ : ∃ X, X = W.drew := ⟨_, rfl⟩
    rw [← hW3]
    have HB3 := Lib.hid (show Below w.heap.size w W3 by rw [hW3]; exact HB.out.trans (hS.mono HB.out.size))
    have hS3 : Below W.heap.size W W3 := by rw [hW3]; exact hS
    have P3 := Lib.hid (HP.out.below hS3)
    have E3 := Lib.hid (HE.out.below hS3)
    have Cl3 := Lib.hid (HCl.out.below hS3)
    clear hS hS3 hW3 HP HE HCl HB
    have hcS : c < W3.heap.size := Cl3.out.cells.lt
    have hpS : w.heap.size < W3.heap.size := P3.out.lt
    have heS : w.heap.size + 1 < W3.heap.size := E3.out.lt
    have hgo : ∀ b, vg.ownBlock = some b → b < w.heap.size := fun b hb => (World.ownsRow.lt HH.out.rg b hb).2
    have hpn : some w.heap.size ≠ vg.ownBlock := fun h => by have := hgo _ h.symm; omega
    have hen : some (w.heap.size + 1) ≠ vg.ownBlock := fun h => by have := hgo _ h.symm; omega
    refine wp_region_held_then (S := fun w' => ∀ b, b < W3.heap.size → some b ≠ vg.ownBlock → w'.heap[b]? = W3.heap[b]?) 8 (by kernel_rfl) (by kernel_rfl) ?_
    have hS : ∀ b, b < W3.heap.size → some b ≠ vg.ownBlock → W3.drew.heap[b]? = W3.heap[b]? := fun b _ _ => rfl
    simp only [List.take_succ_cons, List.take_zero, List.drop_succ_cons, List.drop_zero]
    refine held_take (i := 0) (v := .pointer (some ⟨c, 0, none⟩)) rfl rfl (by kernel_rfl) (by kernel_rfl) (by kernel_rfl) (fun w' h => ?_) hS ?_
    · have h1 : Blk w' w.heap.size _ _ := (h w.heap.size hpS hpn).trans P3.out
      have h2 := h1.cell 0
      go_simp
    refine held_take (i := 1) (v := .pointer (some ⟨c, 0, none⟩)) rfl rfl (by kernel_rfl) (by kernel_rfl) (by kernel_rfl) (fun w' h => ?_) hS ?_
    · have h1 : Blk w' w.heap.size _ _ := (h w.heap.size hpS hpn).trans P3.out
      have h2 := h1.cell 0
      go_simp
    refine held_take (i := 2) (v := .pointer (some ⟨c, 0, none⟩)) rfl rfl (by kernel_rfl) (by kernel_rfl) (by kernel_rfl) (fun w' h => by go_simp) hS ?_
    refine held_take (i := 3) (v := .pointer (some ⟨c, 1, none⟩)) rfl rfl (by kernel_rfl) (by kernel_rfl) (by kernel_rfl) (fun w' h => by go_simp) hS ?_
    refine held_take (i := 4) (v := vg) rfl rfl (by kernel_rfl) (by kernel_rfl) (by kernel_rfl) (fun w' h => ?_) hS ?_
    · have h1 : Blk w' c _ _ := (h c hcS Cl3.out.cg).trans Cl3.out.cells
      have h2 := h1.cell 1
      go_simp
    refine held_take (i := 5) (v := .agg (u8s e)) rfl rfl (by kernel_rfl) (by kernel_rfl) (by kernel_rfl) (fun w' h => run_row_op 78 _ rfl (w.heap.size + 1) rfl 78 (u8s e) (0, 0) _ ((h (w.heap.size + 1) heS hen).trans E3.out) Try.underlying78 rfl (infoElem' he7.1)) hS ?_
    simp [Act.put]
    refine held_only (i := 6) rfl rfl (by kernel_rfl) (wp_build_el _ rfl e he7.1 rfl ⟨fun b hb _ => Below.heap_alloc W3.drew _ b hb, ?_⟩)
    have hX := Blk.new W3.drew 78 (u8s e)
    have hOX : Oel B (W3.drew.alloc (.cells (u8s e) 78)) vg G := World.ownsRow.alloc (w := W3.drew) (World.ownsRow.drew Cl3.out.rg) _
    have hBX : B ≤ (W3.drew.alloc (.cells (u8s e) 78)).heap.size := by have := Cl3.out.base; rw [World.size_alloc]; show B ≤ W3.heap.size + 1; omega
    have hLX : G.length ≤ 1000000 := by have := HG.out.glen; omega
    simp [Act.put]
    refine held_only (i := 7) rfl rfl (by kernel_rfl) (wp_append_el _ _ rfl B vg G rfl hOX W3.drew.heap.size e he7.1 rfl hX hLX hBX ?_)
    intro vg' W5 hO5 hg5 hat5
    rw [World.size_alloc] at hat5
    have h5 : ∀ b, b < W3.heap.size → some b ≠ vg.ownBlock → W5.heap[b]? = W3.heap[b]? := fun b hb hne => (hg5.block b (by rw [World.size_alloc]; show b < W3.heap.size + 1; omega) hne).trans (Below.heap_alloc W3.drew _ b hb)
    refine ⟨h5, held_done (by kernel_rfl) ?_⟩
    obtain ⟨g5, cap5, rfl⟩ := hO5.form (by simp)
    have C5 := Lib.hid (show Blk W5 c 75 #[.int .i64 n, vg, vl, .map (some m)] from (h5 c hcS Cl3.out.cg).trans Cl3.out.cells)
    have hcur := C5.out.cell 1
    have hfr := C5.out.free 1
    have H5 := Lib.hid h5
    have HG5 := Lib.hid hg5
    have HA5 := Lib.hid hat5
    have HO5 := Lib.hid hO5
    clear hS hen hpn h5 hg5 hat5 hO5 hX hOX hBX hLX
    go_simp
    go_wp2
    have e1 : (G ++ [e]).length = G.length + 1 := by simp
    have hA := HA5.out
    have hO6 := HO5.out
    rw [e1] at hA hO6
    obtain ⟨v, hv⟩ : ∃ v, v = Value.slice (some ⟨g5, 0, none⟩) (G.length + 1) cap5 := ⟨_, rfl⟩
    rw [← hv] at hA
    have hO7 : Oel B W5 v (G ++ [e]) := by rw [hv]; exact hO6
    have hbs : Below 0 W5 (W5.setCell ⟨c, 1, none⟩ v) := (Below.refl 0 W5).setCell (Nat.zero_le _) _
    have hoth : ∀ b, b ≠ c → (W5.setCell ⟨c, 1, none⟩ v).heap[b]? = W5.heap[b]? := fun b hne => heap_setCell_other W5 ⟨c, 1, none⟩ b v hne
    have hA' : v.ownBlock = vg.ownBlock ∨ ∃ g, v.ownBlock = some g ∧ W3.heap.size ≤ g := hA.imp id (fun h => ⟨_, h, Nat.le_succ _⟩)
    have z5 := HG5.out.size
    rw [World.size_alloc] at z5
    have z5' : W3.heap.size + 1 ≤ W5.heap.size := z5
    have z6 := hbs.size
    have hml := HH.out.set.lt
    have hcl := HH.out.cells.lt
    have hlo : ∀ b, vl.ownBlock = some b → b < w.heap.size := fun b hb => (World.ownsRow.lt HH.out.rl b hb).2
    have hne : ∀ b, b < W3.heap.size → some b ≠ vg.ownBlock → v.ownBlock ≠ some b := fun b hb hn h => by
      rcases hA' with e | ⟨g, e, hg⟩
      · exact hn (by rw [← e, h])
      · rw [e] at h; have := Option.some.inj h; omega
    have hT : Turns (fun b => b = c ∨ some b = vg.ownBlock) W3 (W5.setCell ⟨c, 1, none⟩ v) := ⟨hbs.os.trans HG5.out.os, hbs.tape.trans HG5.out.tape, hbs.output.trans HG5.out.output, by omega, fun b hb hn => (hoth b (fun e => hn (.inl e))).trans (H5.out b hb (fun e => hn (.inr e)))⟩
    have hcl6 : Clo B (W5.setCell ⟨c, 1, none⟩ v) c m n v vl (G ++ [e]) L := by
      refine ⟨?_, Cl3.out.set.same ((hoth m HH.out.cm.symm).trans (H5.out m (by omega) HH.out.mg)), hO7.turns (priv := fun b => b = c) ⟨hbs.os, hbs.tape, hbs.output, hbs.size, fun b _ hn => hoth b hn⟩ (fun b hb e => hne c (by omega) HH.out.cg (by rw [hb, e])), Cl3.out.rl.turns hT (fun b hb hq => ?_), HH.out.cm, ?_, ?_, HH.out.cl, HH.out.ml, ?_, by have := Cl3.out.base; omega⟩
      · have := C5.out.set 1 v
        simpa using this
      · rcases hq with e | e
        · exact HH.out.cl (by rw [hb, e])
        · rcases HH.out.gl with h1 | h1
          · rw [h1] at e; cases e
          · exact h1 (by rw [hb, e])
      · exact fun h => hne c (by omega) HH.out.cg h.symm
      · exact fun h => hne m (by omega) HH.out.mg h.symm
      · rcases hA' with e | ⟨g, e, hg⟩
        · rw [e]; exact HH.out.gl
        · exact .inr (fun h => by rw [e] at h; have := hlo g h.symm; omega)
    have hP6 : Blk (W5.setCell ⟨c, 1, none⟩ v) w.heap.size 58 #[.pointer (some ⟨c, 0, none⟩)] := P3.out.turns hT (fun hq => by
      rcases hq with e | e
      · omega
      · have := hgo _ e.symm; omega)
    have hT6 : Turns (fun b => b = c ∨ b = m ∨ some b = vg.ownBlock ∨ some b = vl.ownBlock) w (W5.setCell ⟨c, 1, none⟩ v) := (Turns.of_below (priv := fun b => b = c ∨ b = m ∨ some b = vg.ownBlock ∨ some b = vl.ownBlock) HB3.out).step hT (fun x _ hx => hx.elim .inl (fun h => .inr (.inr (.inl h))))
    have hVO : v.ownBlock = vg.ownBlock ∨ ∃ g, v.ownBlock = some g ∧ w.heap.size + 2 ≤ g := hA'.imp id (fun ⟨g, e, hg⟩ => ⟨g, e, by omega⟩)
    have hz6 : w.heap.size + 2 ≤ (W5.setCell ⟨c, 1, none⟩ v).heap.size := by omega
    rw [← hv]
    generalize W5.setCell ⟨c, 1, none⟩ v = W6 at *
    have HV := Lib.hid hv
    have HVO := Lib.hid hVO
    have HC6 := Lib.hid hcl6
    have HP6 := Lib.hid hP6
    have HT6 := Lib.hid hT6
    have HZ6 := Lib.hid hz6
    have HBF := Lib.hid (Bfs.start HG.out he)
    have HCM := Lib.hid (And.intro hcl hml)
    have HLO := Lib.hid hlo
    clear hv hVO hcl6 hP6 hT6 hz6 hcl hml hlo hT hbs hoth hne hA hA' hO6 hO7 e1 z5 z5' z6 H5 HG5 HA5 HO5 C5 hcur hfr hcS hpS heS hgo P3 E3 Cl3 HB3 he7
    go_loopw [5] (fun i wr => ∃ (k : Nat) (vk : Value) (Lk : List (List Int)), i = .int .i64 k ∧ Hid (Clo B wr c m n v vk (G ++ [e]) Lk) ∧ Hid (Blk wr w.heap.size 58 #[.pointer (some ⟨c, 0, none⟩)]) ∧ Hid (Turns (fun b => b = c ∨ b = m ∨ some b = vg.ownBlock ∨ some b = vl.ownBlock) w wr) ∧ Hid (vk.ownBlock = vl.ownBlock ∨ ∃ g, vk.ownBlock = some g ∧ w.heap.size + 2 ≤ g) ∧ Hid (Bfs (G ++ [e]) L Lk k) ∧ Hid (w.heap.size + 2 ≤ wr.heap.size)) (fun i _ => 900000 - (intOf i).toNat)
    case atStart => exact ⟨0, vl, L, rfl, HC6, HP6, HT6, Lib.hid (.inl rfl), HBF, HZ6⟩
    case round =>
      clear HC6 HP6 HT6 HZ6 HBF
      obtain ⟨k, vk, Lk, rfl, CL, P, T, O, BF, ZZ⟩ := hrel
      obtain ⟨wo, hwo⟩ : ∃ W, W = wr := ⟨_, rfl⟩
      subst hwo
      have hp0 := P.out.cell 0
      obtain ⟨ak, capk, hvk⟩ := CL.out.rl.slice
      have hc2 := CL.out.cells.cell 2
      have hc1 := CL.out.cells.cell 1
      have hle := BF.out.le
      have hlen := BF.out.len
      by_cases hlt : k < Lk.length
      · obtain ⟨gk, capk', hvk'⟩ := CL.out.rl.form (by omega)
        have hrl := CL.out.rl
        rw [hvk'] at hc2 hrl
        have hr := hrl.range (fun x hx => (BF.out.els x hx).2) k hlt
        obtain ⟨a, ha⟩ : ∃ a, a = Lk.getD k [] := ⟨_, rfl⟩
        have hEa : El a := by rw [ha]; exact BF.out.els _ (getD_mem hlt)
        rw [← ha] at hr
        have HR := Lib.hid hr
        have HA := Lib.hid ha
        have hi7 : (Try.prog.info? 78).map (·.size) = some (a.map (Value.int .u8)).length := by rw [List.length_map, hEa.2]; exact infoElem
        rw [HV.out] at hc1
        have HQ0 := Lib.hid (Blk.new wo 78 #[.int .u8 0, .int .u8 0, .int .u8 0, .int .u8 0, .int .u8 0, .int .u8 0, .int .u8 0])
        have HQ := Lib.hid (Blk.setRow HQ0.out (u8s a))
        have HBQ := Lib.hid (below_row ((Below.refl wo.heap.size wo).alloc (Nat.le_refl _) (.cells #[.int .u8 0, .int .u8 0, .int .u8 0, .int .u8 0, .int .u8 0, .int .u8 0, .int .u8 0] 78)) wo.heap.size (u8s a) (Nat.le_refl _))
        have HVK := Lib.hid hvk'
        have hp1 := (P.out.below HBQ.out).cell 0
        have hc3 := (CL.out.cells.below HBQ.out).cell 1
        rw [HV.out] at hc3
        clear hr ha hvk hvk' hrl
        go_wp2_with (first | (refine wpList_load_mid rfl 78 _ rfl gk (k * 7) rfl (a.map (Value.int .u8)) _ HR.out Try.underlying78 rfl hi7 ?_) | (refine wpList_store_row rfl 78 _ _ rfl wo.heap.size (u8s a) rfl rfl 78 #[.int .u8 0, .int .u8 0, .int .u8 0, .int .u8 0, .int .u8 0, .int .u8 0, .int .u8 0] HQ0.out (infoElem' hEa.2) (by rw [size_u8s, hEa.2]; rfl) (u8s_one a) ?_))
        have CX := Lib.hid (CL.out.below HBQ.out)
        have PX := Lib.hid (P.out.below HBQ.out)
        have TX := Lib.hid (T.out.step (Turns.of_below (priv := fun _ => False) HBQ.out) (fun _ _ h => h.elim))
        have OX := Lib.hid (show (vk.ownBlock = vl.ownBlock ∨ ∃ g, vk.ownBlock = some g ∧ w.heap.size + 2 ≤ g) ∧ ¬ some wo.heap.size = vk.ownBlock from ⟨O.out, fun h => by have := (World.ownsRow.lt CL.out.rl _ h.symm).2; omega⟩)
        have ZX := Lib.hid ZZ.out
        have HK := Lib.hid (show k < Lk.length ∧ Lk.getD k [] = a ∧ ∀ t, t < 0 → mulL a ((G ++ [e]).getD t []) ∈ Lk from ⟨hlt, HA.out.symm, fun t ht => by omega⟩)
        have HLL := Lib.hid (And.intro hle hlen)
        have hgl := HG.out.glen
        clear hp0 hp1 hc1 hc2 hc3 hle hlen hlt CL P T O HR HA HQ0 HBQ HVK ZZ
        go_loopw [47] (fun i wr => ∃ (j : Nat) (vj : Value) (Lj : List (List Int)), i = .int .i64 j ∧ j ≤ G.length + 1 ∧ Hid (Clo B wr c m n v vj (G ++ [e]) Lj) ∧ Hid (Blk wr w.heap.size 58 #[.pointer (some ⟨c, 0, none⟩)]) ∧ Hid (Blk wr wo.heap.size 78 (u8s a)) ∧ Hid (Turns (fun b => b = c ∨ b = m ∨ some b = vg.ownBlock ∨ some b = vl.ownBlock) w wr) ∧ Hid ((vj.ownBlock = vl.ownBlock ∨ ∃ g, vj.ownBlock = some g ∧ w.heap.size + 2 ≤ g) ∧ ¬ some wo.heap.size = vj.ownBlock) ∧ Hid (Bfs (G ++ [e]) L Lj k) ∧ Hid (k < Lj.length ∧ Lj.getD k [] = a ∧ ∀ t, t < j → mulL a ((G ++ [e]).getD t []) ∈ Lj)) (fun i _ => G.length + 1 - (intOf i).toNat)
        case atStart => exact ⟨0, vk, Lk, rfl, by omega, CX, PX, HQ, TX, OX, BF, HK⟩
        case round =>
          clear CX PX HQ TX OX BF HK
          obtain ⟨j, vj, Lj, rfl, hj, CL, P, HQ, T, O, BF, HK⟩ := hrel
          by_cases hjl : j < G.length + 1
          · obtain ⟨b, hb⟩ : ∃ b, b = (G ++ [e]).getD j [] := ⟨_, rfl⟩
            have hjm : j < (G ++ [e]).length := by rw [List.length_append]; simpa using hjl
            have hGe : Els (G ++ [e]) := Els.snoc he HG.out.gels
            have hEb : El b := by rw [hb]; exact hGe _ (getD_mem hjm)
            have hrg := CL.out.rg
            rw [HV.out] at hrg
            have hr := hrg.range (fun x hx => (hGe x hx).2) j hjm
            rw [← hb] at hr
            have HR := Lib.hid hr
            have HBB := Lib.hid hb
            have HGE := Lib.hid hGe
            have HJM := Lib.hid hjm
            have hi8 : (Try.prog.info? 78).map (·.size) = some (b.map (Value.int .u8)).length := by rw [List.length_map, hEb.2]; exact infoElem
            have HR0 := Lib.hid (Blk.new wr 78 #[.int .u8 0, .int .u8 0, .int .u8 0, .int .u8 0, .int .u8 0, .int .u8 0, .int .u8 0])
            have HRX := Lib.hid (Blk.setRow HR0.out (u8s b))
            have HBX := Lib.hid (below_row ((Below.refl wr.heap.size wr).alloc (Nat.le_refl _) (.cells #[.int .u8 0, .int .u8 0, .int .u8 0, .int .u8 0, .int .u8 0, .int .u8 0, .int .u8 0] 78)) wr.heap.size (u8s b) (Nat.le_refl _))
            have HQX := Lib.hid (HQ.out.below HBX.out)
            clear hb hjm hGe hrg hr
            go_wp2_with (first | (refine wpList_load_mid rfl 78 _ rfl g5 (j * 7) rfl (b.map (Value.int .u8)) _ HR.out Try.underlying78 rfl hi8 ?_) | (refine wpList_store_row rfl 78 _ _ rfl wr.heap.size (u8s b) rfl rfl 78 #[.int .u8 0, .int .u8 0, .int .u8 0, .int .u8 0, .int .u8 0, .int .u8 0, .int .u8 0] HR0.out (infoElem' hEb.2) (by rw [size_u8s, hEb.2]; rfl) (u8s_one b) ?_) | (refine wpList_load_row rfl 78 _ rfl wo.heap.size rfl 78 (u8s a) (0, 0) _ HQX.out Try.underlying78 rfl (infoElem' hEa.2) ?_) | (refine wpList_load_row rfl 78 _ rfl wr.heap.size rfl 78 (u8s b) (0, 0) _ HRX.out Try.underlying78 rfl (infoElem' hEb.2) ?_) | (go_at_call 83; refine (times_any a b _ hEa.e7 hEb.e7).mono ?_; rintro r w1 ⟨rfl, hb1⟩; have HB1 := Lib.hid hb1; clear hb1))
            have hw1 : Below wr.heap.size wr w1 := HBX.out.trans (HB1.out.mono HBX.out.size)
            have hq1 := HQ.out.lt
            have hz1 := hw1.size
            have hzz := ZX.out
            have hEab := hEa.mul hEb
            have hGab : Gen (G ++ [e]) (mulL a b) := (BF.out.gen a (by rw [← HK.out.2.1]; exact getD_mem HK.out.1)).step (by rw [HBB.out]; exact getD_mem HJM.out)
            refine (add_clo (CL.out.below hw1) hEab.e7 (P.out.below hw1) (Nat.le_trans BF.out.len (by omega)) (fun h => by have := HCM.out.1; omega) (fun h => by have := HCM.out.2; omega) (fun h => by
              rcases O.out.1 with e1 | ⟨g, e1, hg⟩
              · rw [e1] at h; have := HLO.out _ h.symm; omega
              · rw [e1] at h; have := Option.some.inj h; omega)).mono ?_
            rintro r w2 ⟨rfl, vj', cl2, p2, t2, o2⟩
            have CL2 := Lib.hid cl2
            have P2 := Lib.hid p2
            have T2 := Lib.hid (show Turns (fun b => b = c ∨ b = m ∨ some b = vg.ownBlock ∨ some b = vl.ownBlock) w w2 from (T.out.step (Turns.of_below (priv := fun _ => False) hw1) (fun _ _ h => h.elim)).step t2 (fun x hx h => by
              rcases h with h | h | h
              · exact .inl h
              · exact .inr (.inl h)
              · rcases O.out.1 with e1 | ⟨g, e1, hg⟩
                · exact .inr (.inr (.inr (by rw [h, e1])))
                · rw [e1] at h; have := Option.some.inj h; omega))
            have Q2 := Lib.hid ((HQ.out.below hw1).turns t2 (fun h => by
              rcases h with h | h | h
              · have := HCM.out.1; omega
              · have := HCM.out.2; omega
              · exact O.out.2 h))
            have O2 := Lib.hid (show (vj'.ownBlock = vl.ownBlock ∨ ∃ g, vj'.ownBlock = some g ∧ w.heap.size + 2 ≤ g) ∧ ¬ some wo.heap.size = vj'.ownBlock from by
              rcases o2 with e1 | ⟨g, e1, hg⟩
              · rw [e1]; exact O.out
              · refine ⟨.inr ⟨g, e1, by omega⟩, fun h => ?_⟩
                rw [e1] at h; have := Option.some.inj h; omega)
            have B2 := Lib.hid (BF.out.add hEab hGab)
            have K2 := Lib.hid (show k < (addE Lj (mulL a b)).length ∧ (addE Lj (mulL a b)).getD k [] = a ∧ ∀ t, t < j + 1 → mulL a ((G ++ [e]).getD t []) ∈ addE Lj (mulL a b) from ⟨Nat.lt_of_lt_of_le HK.out.1 (addE_len _ _), by rw [addE_getD _ HK.out.1]; exact HK.out.2.1, fun t ht => by
              by_cases e1 : t = j
              · rw [e1, ← HBB.out]; exact addE_self _ _
              · exact addE_mem (HK.out.2.2 t (by omega))⟩)
            clear cl2 p2 t2 o2 hw1 hq1 hz1 hzz hEab hGab CL P HQ T O BF HK HR HBB HGE HJM HR0 HRX HBX HQX HB1 hi8 hEb
            go_wp2
            go_roundw
            case rel => exact ⟨j + 1, vj', _, by go_num, by omega, CL2, P2, Q2, T2, O2, B2, K2⟩
            case measure => simp [intOf]; omega
          · have hje : j = G.length + 1 := by omega
            have HN := Lib.hid (show Bfs (G ++ [e]) L Lj (k + 1) from BF.out.next HK.out.1 (fun t ht => by rw [HK.out.2.1]; exact HK.out.2.2 t (by rw [List.length_append] at ht; simp at ht; omega)))
            have hlk := HLL.out
            have hzw := HQ.out.lt
            have hzx := ZX.out
            have hjl' : G.length + 1 ≤ j := by omega
            clear hje BF HK HQ HLL ZX
            go_wp2
            refine ⟨⟨k + 1, vj, Lj, by simp, CL, P, T, Lib.hid O.out.1, HN, Lib.hid (by omega)⟩, ?_⟩
            simp [intOf]; omega
      · have hke : k = Lk.length := by omega
        have hlt' : Lk.length ≤ k := by omega
        have HN := Lib.hid (show Grp (G ++ [e]) Lk from Bfs.end (by rw [← hke]; exact BF.out) HG.out he HIN.out)
        have HVK := Lib.hid hvk
        rw [hvk] at hc2
        clear hke hvk hc1 hlt BF
        go_wp2
        go_end0
        refine ⟨rfl, v, vk, G ++ [e], Lk, CL.out, HN.out, by rw [if_neg HIN.out], fun h => absurd h HIN.out, T.out, ?_, ?_⟩
        · exact HVO.out.imp id (fun ⟨g, e1, hg⟩ => ⟨g, e1, by omega⟩)
        · exact O.out.imp id (fun ⟨g, e1, hg⟩ => ⟨g, e1, by omega⟩)
end Go.Proofs.Ytdcilefiacohnaa
