/- What PermOwn needs beside the contracts: copies by append, a round's state, and every function's result as a list. -/
import Derived.Test.YtcnkegcogepimaaProg
import Derived.Test.YtcnkegcogepimaaBase
import Derived.Test.YtcnkegcogepimaaMul
import Derived.Test.YtcnkegcogepimaaRange
import Derived.Test.YtcnkegcogepimaaPair
import Derived.Test.YtcnkegcogepimaaPow
import Derived.Test.YtcnkegcogepimaaCycs2
import Derived.Test.YtcnkegcogepimaaLawF
import Derived.Test.YtcnkegcogepimaaConj
import Derived.Test.YtcnkegcogepimaaLawH
import Derived.Test.YtcnkegcogepimaaSpoil
import Derived.Deep.AppendSrc
namespace Go.Proofs.Ytcnkegcogepimaa
open Go.RowKit

/-- append(api.Perm{}, x...) : a copy of the call's own -/
theorem wpList_append_copy {ops : Array Oper} {rest : List Oper} {o : Oper} {a : Act} {w : World} {Q : Exit → Act → World → Prop} (hgd : o.guard = none) (s x : Operand)
    (hop : o.op = Op.call { callee := Callee.builtin Builtin.append, args := #[s, x], argTypes := #[23, 23] })
    (g : Nat) (hs : a.eval s = .slice (some ⟨g, 0, none⟩) 0 0) (hg : Blk w g 3 #[]) (xv : Value) (M : List Int) (hx : a.eval x = xv) (hS : Sl w xv M) (hM : M.length ≤ 1000000)
    (hK : ∀ v' w', Ow g w' v' M → w.grownBy w' (some g) → wpList Try.prog ops Q rest (a.put o.dst v') w') :
    wpList Try.prog ops Q (o :: rest) a w := by
  obtain ⟨i0, hi, hz0, hz1, hz2⟩ := info_parts infoInt
  have hlt := hg.lt
  have hown : w.ownsRow g 3 1 (.slice (some ⟨g, 0, none⟩) 0 0) 0 [] := ⟨rfl, .inr ⟨g, 0, #[], rfl, Nat.le_refl _, hg, Nat.le_refl _, Nat.zero_le _, rfl, rfl⟩⟩
  refine wpList_plain hgd fun K hKK => ?_
  have key : ∃ v' w', (Builtin.append_ #[23, 23] o.type #[.slice (some ⟨g, 0, none⟩) 0 0, xv]).run Try.prog w = .ok v' w' ∧ Ow g w' v' M ∧ w.grownBy w' (some g) := by
    obtain ⟨ax, cx, rfl, hS⟩ := hS
    rcases ax with _ | ad
    · have hM0 : M = [] := by
        rcases hS with h | ⟨b, off, h, _⟩
        · exact h
        · cases h
      subst hM0
      have hr := run_append_room_src (P := Try.prog) w 23 23 o.type 3 i0 Try.underlying23 hi g 0 0 0 (.slice none 0 cx) 0 [] (Src.ofNil w Try.underlying23 cx) (by omega) (fun j hj => by simp at hj) (fun j hj => by simp at hj)
      exact ⟨_, _, hr, hown, ⟨rfl, rfl, rfl, Nat.le_refl _, fun _ _ _ => rfl⟩⟩
    · obtain ⟨v', w', hr, h1, h2, _⟩ := run_append_own (P := Try.prog) w g 23 o.type 3 i0 (.int .i64 0) 1 8 Try.underlying23 hi hz0 hz1 hz2 rfl (by decide) (.slice (some ⟨g, 0, none⟩) 0 0) 0 [] hown ad M.length cx (M.map (Value.int .i64)) (by simp)
        (fun j u hu => by
          rw [List.getElem?_map] at hu
          cases hj : M[j]? with
          | none => rw [hj] at hu; cases hu
          | some y =>
            rw [hj] at hu
            have hlt : j < M.length := (List.getElem?_eq_some_iff.1 hj).1
            rcases hS with h | ⟨b, off, h, hc⟩
            · rw [h] at hlt; simp at hlt
            · cases h
              have := hc j hlt
              rw [Addr.add_lit, this, ← hu]
              simp [hj])
        (fun u hu => by obtain ⟨y, _, rfl⟩ := List.mem_map.1 hu; rfl) (by unfold maxLen; omega) (by omega) (by omega)
      refine ⟨v', w', hr, ?_, h2⟩
      unfold Ow; simpa using h1
  obtain ⟨v', w', hrun, h1, h2⟩ := key
  unfold Oper.wp execOp
  simp only [hop, resolve, invoke, builtin, Sem.run_bind, Sem.run_pure, Result.andThen_ok, List.map_toArray, List.map_cons, List.map_nil, hs, hx, hrun]
  exact hKK _ _ (hK v' w' h1 h2)

/-- what Conjugator hands back -/
def cjL (p q : List Int) : Option (List Nat) → List Int
  | none => []
  | some js => cf p q js (cyc p).length
def cjE (p q : List Int) : List Int := if errP p q = 0 then cjL p q (chs p q (cyc p).length) else []
theorem Conj_any (v1 v2 : Value) (p q : List Int) (w : World) (h1 : Sl w v1 p) (h2 : Sl w v2 q) (hp : p.length ≤ 1000000) (hq : q.length ≤ 1000000) :
    Calls Try.prog 40 #[v1, v2] w fun e w' => ∃ v c, e = .returned (.tuple #[v, .int .i64 c]) ∧ Ow w.heap.size w' v (cjE p q) ∧ Below w.heap.size w w' := by
  by_cases he : errP p q = 0
  · refine (conj_ok v1 v2 p q w h1 h2 he).mono ?_
    rintro e w' ⟨ho, hb⟩
    unfold cjE
    rw [if_pos he]
    rcases hc : chs p q (cyc p).length with _ | js
    · rw [hc] at ho
      exact ⟨_, _, ho, Ow.nil _ _, hb⟩
    · rw [hc] at ho
      obtain ⟨v, e1, e2⟩ := ho
      exact ⟨v, _, e1, e2, hb⟩
  · refine (conj_bad v1 v2 p q w h1 h2 hp hq he).mono ?_
    rintro e w' ⟨ho, hb⟩
    unfold cjE
    rw [if_neg he]
    exact ⟨_, _, ho, Ow.nil _ _, hb⟩
theorem Cycles_any (v : Value) (p : List Int) (w : World) (h : Sl w v p) (hp : p.length ≤ 1000000) :
    Calls Try.prog 20 #[v] w fun e w' => ∃ r n, e = .returned r ∧ n ≤ 1000000 ∧ Lw w.heap.size w'.heap.size w' r n ∧ Below w.heap.size w w' := by
  rcases hv : validL p with _ | _
  · refine (cycles_no v p w h hp hv).mono ?_
    rintro e w' ⟨ho, hb⟩
    exact ⟨_, 0, ho, Nat.zero_le _, .inl ⟨rfl, rfl⟩, hb⟩
  · refine (cycles_yes v p w h hv).mono ?_
    rintro e w' ⟨r, ho, hc, hb⟩
    obtain ⟨k1, k2⟩ := longL_bounds hv
    exact ⟨r, _, ho, k1, Lw.of_ows hc k2, hb⟩

/-- the five results of a round -/
def five (p q : List Int) (k : Int) : List (List Int) := [mulE p q, commE p q, invE p, powE p k, cjE p q]

/-- A round, when the first n results are stored in the array at bl: W1 is the world ahead of the first call. -/
structure RSt (bl : Nat) (W1 : World) (rs : List (List Int)) (n : Nat) (xs : Array Value) (W : World) : Prop where
  turns : Turns (fun b => b = bl) W1 W
  l : Blk W bl 58 xs
  size : xs.size = 5
  own : ∀ j, j < n → Ow W1.heap.size W (xs.getD j undef) (rs.getD j [])
  apart : ∀ i j, i < j → j < n → ∀ b, (xs.getD i undef).ownBlock = some b → (xs.getD j undef).ownBlock ≠ some b
theorem RSt.zero {bl : Nat} {W1 : World} {rs : List (List Int)} {xs : Array Value} (h : Blk W1 bl 58 xs) (hs : xs.size = 5) : RSt bl W1 rs 0 xs W1 :=
  ⟨Turns.refl _ _, h, hs, fun j hj => by omega, fun i j _ hj => by omega⟩
theorem RSt.next {bl : Nat} {W1 : World} {rs : List (List Int)} {n : Nat} {xs : Array Value} {W W' : World} {v : Value} (h : RSt bl W1 rs n xs W) (hl : bl < W1.heap.size) (hn : n < 5)
    (hO : Ow W.heap.size W' v (rs.getD n [])) (hb : Below W.heap.size W W') : RSt bl W1 rs (n + 1) (xs.setIfInBounds n v) (W'.setCell ⟨bl, n, none⟩ v) := by
  have hsz := h.turns.size
  have ht : Turns (fun b => b = bl) W' (W'.setCell ⟨bl, n, none⟩ v) := (Turns.refl _ _).setCell _ _ _ rfl
  have hne : ∀ {B : Nat} {u : Value} {zs : List Int}, W1.heap.size ≤ B → Ow B W' u zs → Ow B (W'.setCell ⟨bl, n, none⟩ v) u zs := fun hB hu => hu.turns ht (fun r e hr => by have := (hu.lt r e).1; omega)
  have get : ∀ j, j < 5 → (xs.setIfInBounds n v).getD j undef = if j = n then v else xs.getD j undef := fun j hj => by
    have hs := h.size
    simp only [Array.getD_eq_getD_getElem?, Array.getElem?_setIfInBounds]
    by_cases e : j = n
    · subst e; simp [hs, hj]
    · rw [if_neg (fun h => e h.symm), if_neg e]
  refine ⟨((h.turns.trans (.of_below hb)).setCell _ _ _ rfl), (h.l.below hb).set n v, by simpa using h.size, fun j hj => ?_, fun i j hij hj b hbi hbj => ?_⟩
  · rw [get j (by omega)]
    by_cases e : j = n
    · subst e
      rw [if_pos rfl]
      exact hne (Nat.le_refl _) (hO.mono hsz)
    · rw [if_neg e]
      exact hne (Nat.le_refl _) ((h.own j (by omega)).below hb)
  · rw [get i (by omega), if_neg (by omega)] at hbi
    rw [get j (by omega)] at hbj
    by_cases e : j = n
    · rw [if_pos e] at hbj
      have h1 := ((h.own i (by omega)).lt b hbi).2
      have h2 := (hO.lt b hbj).1
      omega
    · rw [if_neg e] at hbj
      exact h.apart i j hij (by omega) b hbi hbj
theorem RSt.cell {bl n : Nat} {W1 W W' : World} {rs : List (List Int)} {xs : Array Value} (h : RSt bl W1 rs n xs W) (hb : Below W.heap.size W W') (i : Nat) (hi : i < 5) : (∃ u, W'.cell? ⟨bl, i, none⟩ = some u) ∧ W'.frozen? ⟨bl, i, none⟩ = false := by
  have hB := h.l.below hb
  have hs := h.size
  refine ⟨?_, hB.free i⟩
  rw [hB.cell i]
  exact ⟨_, Array.getElem?_eq_getElem (by omega)⟩
theorem RSt.read {bl n S : Nat} {w W1 W : World} {rs : List (List Int)} {xs : Array Value} (h : RSt bl W1 rs n xs W) (hb : Below S w W1) (hS : S ≤ bl) (hw : S ≤ w.heap.size) : Below S w W :=
  below_turns hb h.turns (fun b hbS hbl => by omega) hw
theorem RSt.fin {bl nc : Nat} {W1 W X : World} {rs : List (List Int)} {xs : Array Value} {cy : Value} (h : RSt bl W1 rs 5 xs W) (hb : Below W.heap.size W X) (hL : Lw W.heap.size X.heap.size X cy nc) :
    ∃ (ys : Array Value) (U : Nat), Blk X bl 58 ys ∧ ys.size = 5 ∧ (∀ j, j < 5 → Ow W1.heap.size X (ys.getD j undef) (rs.getD j [])) ∧ (∀ j, j < 5 → ∀ b, (ys.getD j undef).ownBlock = some b → b < U) ∧
      (∀ i j, i < j → j < 5 → ∀ b, (ys.getD i undef).ownBlock = some b → (ys.getD j undef).ownBlock ≠ some b) ∧ Turns (fun b => b = bl) W1 X ∧ W1.heap.size ≤ U ∧ U ≤ X.heap.size ∧ Lw U X.heap.size X cy nc :=
  ⟨xs, W.heap.size, h.l.below hb, h.size, fun j hj => (h.own j hj).below hb, fun j hj b hj2 => ((h.own j hj).lt b hj2).2, h.apart, h.turns.trans (.of_below hb), h.turns.size, hb.size, hL⟩
theorem getD_form {B : Nat} {w : World} {v : Value} {zs : List Int} (h : Ow B w v zs) : ∃ a c, v = .slice a zs.length c := by
  obtain ⟨a, c, e, _⟩ := h.sl
  exact ⟨a, c, e⟩
theorem arr_get {xs : Array Value} {j : Nat} (h : j < xs.size) : xs[j]? = some (xs.getD j undef) := by simp [h]
theorem arr_set {xs : Array Value} {j i : Nat} {v : Value} (hj : j < xs.size) : (xs.setIfInBounds j v).getD i undef = if i = j then v else xs.getD i undef := by
  simp only [Array.getD_eq_getD_getElem?, Array.getElem?_setIfInBounds]
  by_cases e : i = j
  · subst e; simp [hj]
  · rw [if_neg (fun h => e h.symm), if_neg e]
theorem five_le {p q : List Int} {k : Int} (hp : p.length ≤ 1000000) (j : Nat) : ((five p q k).getD j []).length ≤ 1000000 := by
  have h0 : ([] : List Int).length ≤ 1000000 := by decide
  match j with
  | 0 => show (mulE p q).length ≤ 1000000
         unfold mulE; split
         · rw [length_mulL]; exact hp
         · exact h0
  | 1 => show (commE p q).length ≤ 1000000
         unfold commE; split
         · unfold commL; rw [length_mulL, length_mulL, length_invL]; exact hp
         · exact h0
  | 2 => show (invE p).length ≤ 1000000
         unfold invE; split
         · rw [length_invL]; exact hp
         · exact h0
  | 3 => show (powE p k).length ≤ 1000000
         unfold powE; split
         · rw [length_powL]; exact hp
         · exact h0
  | 4 => show (cjE p q).length ≤ 1000000
         unfold cjE; split
         · cases chs p q (cyc p).length with
           | none => exact h0
           | some js => show (cf p q js (cyc p).length).length ≤ 1000000
                        rw [length_cf]; exact hp
         · exact h0
  | j + 5 => simp [five]
theorem Turns.setRow {priv : Nat → Prop} {A B : World} (h : Turns priv A B) (b : Nat) (cs : Array Value) (hp : priv b) : Turns priv A (B.setRow b cs) :=
  h.trans ⟨rfl, rfl, rfl, by simp, fun k _ hn => setRow_other B b k cs (fun e => hn (by rw [e]; exact hp))⟩
theorem Blk.setRow {w : World} {b : Nat} {t : TypeId} {cs : Array Value} (h : Blk w b t cs) (ds : Array Value) : Blk (w.setRow b ds) b t ds := setRow_heap w b cs ds t (0, 0) h
theorem all_slices {B : Nat} {w : World} {ks : Array Value} {rs : List (List Int)} (hk : ks.size = 5) (h : ∀ t, t < 5 → Ow B w (ks.getD t undef) (rs.getD t [])) : ks.all (·.oneCell') = true := by
  rw [Array.all_eq_true]
  intro i hi
  obtain ⟨a, c, e⟩ := getD_form (h i (by omega))
  have : ks[i] = ks.getD i undef := by simp [hi]
  rw [this, e]
  rfl
theorem infoFive : (Try.prog.info? 58).map (·.size) = some 5 := by kernel_rfl
theorem Ow.ne_arr {B g : Nat} {w : World} {v : Value} {zs : List Int} {cs : Array Value} (h : Ow B w v zs) (hg : Blk w g 58 cs) : v.ownBlock ≠ some g := fun e => by
  obtain ⟨_, h⟩ := h
  rcases h with ⟨rfl, _⟩ | ⟨g', cap, cur, rfl, _, h3, _⟩
  · cases e
  · cases e
    have := h3.symm.trans hg
    cases this
end Go.Proofs.Ytcnkegcogepimaa
