/- Rows that the statements overwrite: SpoilInts, Spoil, SpoilLists turn no memory but the row's own. -/
import Derived.Test.YtjnjhfificpbbaaProg
import Derived.Test.YtjnjhfificpbbaaBase
import Derived.Test.YtjnjhfificpbbaaMul
import Derived.Test.YtjnjhfificpbbaaRange
import Derived.Test.YtjnjhfificpbbaaCycs
import Derived.Maps.AppendAt
namespace Go.Proofs.Ytjnjhfificpbbaa
open Go.RowKit

/-- every row of integers of the program's stays one of the same size -/
def Keeps (w w' : World) : Prop := ∀ k cur, Blk w k 3 cur → ∃ cur', Blk w' k 3 cur' ∧ cur'.size = cur.size
theorem Keeps.refl (w : World) : Keeps w w := fun _ cur h => ⟨cur, h, rfl⟩
theorem Keeps.trans {a b c : World} (h : Keeps a b) (k : Keeps b c) : Keeps a c := fun i cur hi => by
  obtain ⟨c1, h1, e1⟩ := h i cur hi
  obtain ⟨c2, h2, e2⟩ := k i c1 h1
  exact ⟨c2, h2, e2.trans e1⟩
theorem Keeps.below {w w' : World} (h : Below w.heap.size w w') : Keeps w w' := fun _ cur hk => ⟨cur, hk.below h, rfl⟩
theorem Keeps.alloc (w : World) (o : Obj) : Keeps w (w.alloc o) := Keeps.below ((Below.refl _ w).alloc (Nat.le_refl _) o)
theorem Keeps.set (w : World) (b i : Nat) (v : Value) : Keeps w (w.setCell ⟨b, i, none⟩ v) := fun k cur hk => by
  by_cases e : k = b
  · subst e; exact ⟨_, hk.set i v, by simp⟩
  · exact ⟨cur, hk.other b i v e, rfl⟩

/-- x is nil, or a row of n integers' places of the program's own between the blocks B and T, whatever it holds -/
def Rw (B T : Nat) (w : World) (x : Value) (n : Nat) : Prop :=
  (x = .slice none 0 0 ∧ n = 0) ∨ ∃ g cap cur, x = .slice (some ⟨g, 0, none⟩) n cap ∧ (B ≤ g ∧ g < T) ∧ Blk w g 3 cur ∧ n ≤ cap ∧ cap ≤ maxLen ∧ cur.size = cap
theorem Rw.keeps {B T : Nat} {w w' : World} {x : Value} {n : Nat} (h : Rw B T w x n) (k : Keeps w w') : Rw B T w' x n := by
  rcases h with h | ⟨g, cap, cur, h1, h2, h3, h4, h5, h6⟩
  · exact .inl h
  · obtain ⟨c2, k1, k2⟩ := k g cur h3
    exact .inr ⟨g, cap, c2, h1, h2, k1, h4, h5, k2.trans h6⟩
theorem Rw.of_ow {B : Nat} {w : World} {x : Value} {zs : List Int} (h : Ow B w x zs) : Rw B w.heap.size w x zs.length := by
  obtain ⟨_, h⟩ := h
  rcases h with h | ⟨g, cap, cur, h1, h2, h3, h4, h5, h6, _⟩
  · exact .inl h
  · exact .inr ⟨g, cap, cur, h1, ⟨h2, (Array.getElem?_eq_some_iff.1 h3).1⟩, h3, h4, h5, by simpa using h6⟩
theorem Rw.owns {B T : Nat} {w : World} {x : Value} {n : Nat} (h : Rw B T w x n) : ∃ xs, w.ownsRow B 3 1 x n xs := by
  rcases h with ⟨rfl, rfl⟩ | ⟨g, cap, cur, rfl, h2, h3, h4, h5, h6⟩
  · exact ⟨[], World.ownsRow_nil _ _ _ _⟩
  · refine ⟨cur.toList.take (n * 1), by simp; omega, .inr ⟨g, cap, cur, rfl, h2.1, h3, h4, h5, by omega, rfl⟩⟩
theorem Rw.mono {B T B' T' : Nat} {w : World} {x : Value} {n : Nat} (h : Rw B T w x n) (hB : B' ≤ B) (hT : T ≤ T') : Rw B' T' w x n := by
  rcases h with h | ⟨g, cap, cur, h1, h2, h3⟩
  · exact .inl h
  · exact .inr ⟨g, cap, cur, h1, ⟨by omega, by omega⟩, h3⟩

theorem Turns.setNew {priv : Nat → Prop} {A B : World} (h : Turns priv A B) (b i : Nat) (v : Value) (hp : A.heap.size ≤ b) : Turns priv A (B.setCell ⟨b, i, none⟩ v) :=
  (Turns.setCell (priv := fun k => priv k ∨ k = b) (h.mono fun _ hk => .inl hk) b i v (.inr rfl)) |> fun k => ⟨k.os, k.tape, k.output, k.size, fun j hj hn => k.block j hj (fun e => by rcases e with e | e; exact hn e; omega)⟩
theorem Turns.grown {priv : Nat → Prop} {A B : World} {row : Option Nat} (h : A.grownBy B row) (hp : ∀ b, row = some b → priv b) : Turns priv A B :=
  ⟨h.os, h.tape, h.output, h.size, fun k hk hn => h.block k hk (fun e => hn (hp k e.symm))⟩

/-- append onto such a row, with what else it keeps -/
theorem wpList_append_keeps {ops : Array Oper} {rest : List Oper} {o : Oper} {a : Act} {w : World} {Q : Exit → Act → World → Prop} (hgd : o.guard = none) (s x : Operand) (t : TypeId)
    (ho : o.op = .call { callee := .builtin .append, args := #[s, x], argTypes := #[t, t] }) (ht : Try.prog.underlying t = some (.slice 3))
    (B : Nat) (v : Value) (n : Nat) (xs : List Value) (hs : a.eval s = v) (hown : w.ownsRow B 3 1 v n xs)
    (ad : Addr) (m c : Nat) (news : List Value) (hx : a.eval x = .slice (some ad) m c) (hl : news.length = m) (hnews : ∀ j u, news[j]? = some u → w.cell? (ad.add j) = some u) (h1 : ∀ u ∈ news, u.oneCell' = true)
    (hn : n + m ≤ 2000000) (hB : B ≤ w.heap.size)
    (h : ∀ v' w', w'.ownsRow B 3 1 v' (n + m) (xs ++ news) → w.grownBy w' v.ownBlock → (v'.ownBlock = v.ownBlock ∨ v'.ownBlock = some w.heap.size) → Keeps w w' → wpList Try.prog ops Q rest (a.put o.dst v') w') :
    wpList Try.prog ops Q (o :: rest) a w := by
  obtain ⟨i0, hi, hz0, hz1, hz2⟩ := info_parts infoInt
  refine wpList_plain hgd fun K hK => ?_
  obtain ⟨v', w', hr, h2, h3, _, h5⟩ := run_append_own_at (P := Try.prog) w B t o.type 3 i0 (.int .i64 0) 1 8 ht hi hz0 hz1 hz2 rfl (by decide) v n xs hown ad m c news (by omega) hnews h1 (by unfold maxLen; omega) (by omega) hB
  have hk : Keeps w w' := by
    rcases hown.2 with ⟨e, e0⟩ | ⟨g, cap, cur, e, hbg, hg, hnc, hcm, hcs, htake⟩
    · subst e
      exact fun k cur hk => ⟨cur, (h3.block k hk.lt (fun e => by cases e)).trans hk, rfl⟩
    · subst e
      intro k cur' hk
      by_cases e : k = g
      · subst e
        obtain rfl : cur' = cur := by
          have := hk.symm.trans hg
          cases this
          rfl
        by_cases hroom : n + m ≤ cap
        · have hfit : n * i0.size + news.length ≤ cur'.size := by rw [hz1]; omega
          have hr2 := run_append_room (P := Try.prog) w t o.type 3 i0 ht hi k n cap cur' hg ad m c news (by rw [hz1]; omega) hnews h1 hroom hfit
          rw [hr] at hr2
          cases hr2
          obtain ⟨_, h2⟩ := h2
          rcases h2 with ⟨e, _⟩ | ⟨g', cap', cur2, e, _, hg', _, _, hcs', _⟩
          · cases e
          · cases e
            exact ⟨cur2, hg', by omega⟩
        · have holds : ∀ j u, xs[j]? = some u → w.cell? ((⟨k, 0, none⟩ : Addr).add j) = some u := hown.cells (g := k) rfl
          have hr2 := run_append_grow (P := Try.prog) w t o.type 3 i0 (.int .i64 0) ht hi hz0 ⟨k, 0, none⟩ n cap xs (by rw [hz1]; exact hown.1) holds ad m c news (by rw [hz1]; omega) hnews (by omega) (by unfold maxLen at hcm; omega) (growslice_fits (by omega) (by rw [hz2]; omega))
          rw [hr] at hr2
          cases hr2
          exact ⟨cur', (heap_alloc_old w.drew _ (show k < w.drew.heap.size from hk.lt)).trans hk, rfl⟩
      · exact ⟨cur', (h3.block k hk.lt (fun h => by cases h; exact e rfl)).trans hk, rfl⟩
  unfold Oper.wp execOp
  simp only [ho, resolve, invoke, builtin, Sem.run_bind, Sem.run_pure, Result.andThen_ok, List.map_toArray, List.map_cons, List.map_nil, hs, hx, hr]
  exact hK _ _ (h v' w' h2 h3 h5 hk)

theorem set_any {w : World} {g i : Nat} {cur : Array Value} (h : Blk w g 3 cur) (hi : i < cur.size) : ∃ u, w.cell? ⟨g, i, none⟩ = some u := by
  rw [h.cell i]; exact ⟨_, Array.getElem?_eq_getElem hi⟩

theorem owns_blk {w : World} {B n : Nat} {v : Value} {xs : List Value} (h : w.ownsRow B 3 1 v (n + 1) xs) : ∃ g cap cur, v = .slice (some ⟨g, 0, none⟩) (n + 1) cap ∧ Blk w g 3 cur ∧ n + 1 ≤ cur.size := by
  obtain ⟨_, h⟩ := h
  rcases h with ⟨_, h⟩ | ⟨g, cap, cur, h1, h2, h3, h4, h5, h6, _⟩
  · omega
  · exact ⟨g, cap, cur, h1, h3, by omega⟩

set_option maxHeartbeats 1000000 in
/-- SpoilInts on a row of the program's own: nothing but the row is turned, and each row keeps its size. -/
theorem spoilints_any (B T : Nat) (x : Value) (n : Nat) (w : World) (h : Rw B T w x n) (hn : n ≤ 1000000) (hB : B ≤ w.heap.size) :
    Calls Try.prog 75 #[x] w fun e w' => e = .returned (.tuple #[]) ∧ Keeps w w' ∧ Turns (fun b => x.ownBlock = some b) w w' := by
  rcases h with ⟨rfl, rfl⟩ | ⟨g, cap, cur, rfl, ⟨h1, h2⟩, h3, h4, h5, h6⟩
  · go_enter Try.func75, Try.ntmps75
    go_wp2
    go_loopw [2] (fun i wr => i = .int .i64 0 ∧ wr = w) (fun _ _ => 0)
    case atStart => exact ⟨rfl, rfl⟩
    case round =>
      obtain ⟨rfl, rfl⟩ := hrel
      go_wp2_with (at_builtin; refine wpList_append_keeps rfl _ _ 31 rfl Try.underlying31 0 (.slice none 0 0) 0 [] rfl (World.ownsRow_nil _ _ _ _) ⟨wr.heap.size, 0, none⟩ 1 1 [.int .i64 (-8)] rfl rfl (cell_one_new _ _ _) (by simp [Value.oneCell']) (by omega) (Nat.zero_le _) ?_; intro v' w2 hown' hgrow hat hk; obtain ⟨g', cap', cur', rfl, hb', hs'⟩ := owns_blk hown'; obtain ⟨u, hu⟩ := set_any hb' (show 0 < cur'.size by omega); have hf := hb'.free 0)
      have hg' : wr.heap.size < g' := by
        rcases hat with e | e
        · cases e
        · cases e; simp
      go_end0
      exact ⟨rfl, ((Keeps.alloc _ _).trans hk).trans (Keeps.set _ _ _ _), (((Turns.alloc _ _).trans (Turns.grown hgrow (fun b e => by cases e))).setNew _ _ _ (by omega))⟩
  · go_enter Try.func75, Try.ntmps75
    go_wp2
    have H3 := Lib.hid h3
    clear h3
    go_loopw [2] (fun i wr => ∃ k : Nat, k ≤ n ∧ i = .int .i64 k ∧ Hid (∃ cur2, Blk wr g 3 cur2 ∧ cur2.size = cap) ∧ Keeps w wr ∧ Turns (fun b => some g = some b) w wr) (fun i _ => n - (intOf i).toNat)
    case atStart => exact ⟨0, Nat.zero_le _, rfl, Lib.hid ⟨cur, H3.out, h6⟩, Keeps.refl _, Turns.refl _ _⟩
    case round =>
      obtain ⟨k, hk, rfl, hb, hkp, ht⟩ := hrel
      obtain ⟨cur2, hb2, hs2⟩ := hb.out
      by_cases hlt : k < n
      · obtain ⟨u, hu⟩ := set_any hb2 (show k < cur2.size by omega)
        have hf := hb2.free k
        have HB := Lib.hid (⟨_, hb2.set k (.int .i64 (-7)), by simp [hs2]⟩ : ∃ cur3, Blk (wr.setCell ⟨g, k, none⟩ (.int .i64 (-7))) g 3 cur3 ∧ cur3.size = cap)
        clear hb2
        go_wp2
        go_roundw
        case rel => exact ⟨k + 1, by omega, by go_num, HB, hkp.trans (Keeps.set _ _ _ _), ht.setCell _ _ _ rfl⟩
        case measure => simp [intOf]; omega
      · have hlt' : n ≤ k := by omega
        have hke : k = n := by omega
        subst hke
        have hsz : w.heap.size ≤ wr.heap.size := ht.size
        have hrw : Rw B (g + 1) wr (.slice (some ⟨g, 0, none⟩) k cap) k := .inr ⟨g, cap, cur2, rfl, ⟨h1, by omega⟩, hb2, h4, h5, hs2⟩
        obtain ⟨xs, hxs⟩ := hrw.owns
        have hxa : (wr.alloc (.cells #[.int .i64 (-8)] 3)).ownsRow B 3 1 (.slice (some ⟨g, 0, none⟩) k cap) k xs := hxs.alloc _
        have HX := Lib.hid hxa
        clear hxa hxs hrw hb2
        go_wp2_with (at_builtin; refine wpList_append_keeps rfl _ _ 31 rfl Try.underlying31 B (.slice (some ⟨g, 0, none⟩) k cap) k xs rfl HX.out ⟨wr.heap.size, 0, none⟩ 1 1 [.int .i64 (-8)] rfl rfl (cell_one_new _ _ _) (by simp [Value.oneCell']) (by omega) (by simp; omega) ?_; intro v' w2 hown' hgrow hat hk2; obtain ⟨g', cap', cur', rfl, hb', hs'⟩ := owns_blk hown'; obtain ⟨u, hu⟩ := set_any hb' (show 0 < cur'.size by omega); have hf := hb'.free 0)
        have ht2 : Turns (fun b => some g = some b) w w2 := (ht.trans (Turns.alloc _ _)).trans (Turns.grown hgrow (fun b e => e))
        have hk3 : Keeps w w2 := (hkp.trans (Keeps.alloc _ _)).trans hk2
        have hg' : some g = some g' ∨ w.heap.size ≤ g' := by
          rcases hat with e | e
          · exact .inl e.symm
          · right
            have : g' = wr.heap.size + 1 := by simpa [Value.ownBlock] using e
            omega
        clear hown' hgrow hat hk2
        go_wp2
        go_end0
        refine ⟨rfl, hk3.trans (Keeps.set _ _ _ _), ?_⟩
        rcases hg' with e | e
        · exact ht2.setCell _ _ _ e
        · exact ht2.setNew _ _ _ e

theorem spoil_any (B T : Nat) (x : Value) (n : Nat) (w : World) (h : Rw B T w x n) (hn : n ≤ 1000000) (hB : B ≤ w.heap.size) :
    Calls Try.prog 48 #[x] w fun e w' => e = .returned (.tuple #[]) ∧ Keeps w w' ∧ Turns (fun b => x.ownBlock = some b) w w' := by
  have H := Lib.hid h
  clear h
  go_enter Try.func48, Try.ntmps48
  go_wp2_with (go_at_call 75; refine (spoilints_any B T x n _ H.out hn hB).mono ?_; rintro e w2 ⟨rfl, k2, t2⟩)
  go_end0
  exact ⟨rfl, k2, t2⟩

/-- v is a slice of such rows, itself a row of the program's own between B and T -/
def Lw (B T : Nat) (w : World) (v : Value) (n : Nat) : Prop :=
  (v = .slice none 0 0 ∧ n = 0) ∨ ∃ g cap cur, v = .slice (some ⟨g, 0, none⟩) n cap ∧ (B ≤ g ∧ g < T) ∧ Blk w g 31 cur ∧ n ≤ cur.size ∧ ∀ i, i < n → ∃ x m, cur[i]? = some x ∧ m ≤ 1000000 ∧ Rw B T w x m
theorem Rw.turns {priv : Nat → Prop} {B T : Nat} {w w' : World} {x : Value} {n : Nat} (h : Rw B T w x n) (ht : Turns priv w w') (hp : ∀ b, priv b → ¬ (B ≤ b ∧ b < T)) : Rw B T w' x n := by
  rcases h with h | ⟨g, cap, cur, h1, h2, h3, h4⟩
  · exact .inl h
  · exact .inr ⟨g, cap, cur, h1, h2, h3.turns ht (fun hb => hp _ hb h2), h4⟩
theorem Lw.turns {priv : Nat → Prop} {B T : Nat} {w w' : World} {v : Value} {n : Nat} (h : Lw B T w v n) (ht : Turns priv w w') (hp : ∀ b, priv b → ¬ (B ≤ b ∧ b < T)) : Lw B T w' v n := by
  rcases h with h | ⟨g, cap, cur, h1, h2, h3, h4, h5⟩
  · exact .inl h
  · refine .inr ⟨g, cap, cur, h1, h2, h3.turns ht (fun hb => hp _ hb h2), h4, fun i hi => ?_⟩
    obtain ⟨x, m, k1, k2, k3⟩ := h5 i hi
    exact ⟨x, m, k1, k2, k3.turns ht hp⟩
theorem Lw.of_ows {B : Nat} {w : World} {v : Value} {css : List (List Int)} (h : Ows B w v css) (hl : ∀ i, i < css.length → (css.getD i []).length ≤ 1000000) : Lw B w.heap.size w v css.length := by
  obtain ⟨vs, h1, ⟨h2, h⟩, h3⟩ := h
  rcases h with ⟨e, h⟩ | ⟨g, cap, cur, e, k2, k3, k4, k5, k6, k7⟩
  · exact .inl ⟨e, by omega⟩
  · refine .inr ⟨g, cap, cur, by rw [e, h1], ⟨k2, (Array.getElem?_eq_some_iff.1 k3).1⟩, k3, by omega, fun i hi => ⟨vs.getD i undef, _, ?_, hl i hi, Rw.of_ow (h3 i hi)⟩⟩
    have : (cur.toList.take (vs.length * 1))[i]? = vs[i]? := by rw [k7]
    rw [List.getElem?_take, if_pos (by omega)] at this
    simp only [Array.getElem?_toList] at this
    rw [this]
    simp [show i < vs.length by omega]

theorem Blk.ne_type {w : World} {k g : Nat} {a b : Array Value} (h : Blk w k 3 a) (h2 : Blk w g 31 b) : k ≠ g := fun e => by
  subst e
  have := h.symm.trans h2
  cases this

end Go.Proofs.Ytjnjhfificpbbaa
