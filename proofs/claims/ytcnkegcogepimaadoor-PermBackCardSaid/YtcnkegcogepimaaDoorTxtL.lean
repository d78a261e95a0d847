/- Plain mathematics of the textual form of a permutation: the two parsers read it back; nothing here speaks of the program. -/
import Derived.Test.YtcnkegcogepimaaDoorConjN
import Derived.Test.YtcnkegcogepimaaDoorCycs2
import Derived.Test.YtcnkegcogepimaaDoorCnt
namespace Go.Proofs.YtcnkegcogepimaaDoor
open Go.RowKit

def dig (x : Int) : UInt8 := UInt8.ofNat (48 + x.toNat)
theorem dig_nat {x : Int} (h0 : 0 ≤ x) (h7 : x < 7) : (dig x).toNat = 48 + x.toNat := by
  have : 48 + x.toNat < 256 := by omega
  show (48 + x.toNat) % 256 = _
  omega
/-- the bytes of points, each behind a separator: the first behind sep -/
def cyP : UInt8 → List Int → List UInt8
  | _, [] => []
  | sep, x :: l => sep :: dig x :: cyP 32 l
def cyB (c : List Int) : List UInt8 := cyP 40 c ++ [41]
def txtB (L : List (List Int)) : List UInt8 := L.flatMap cyB
def txt (p : List Int) : List UInt8 := if longL p = [] then [40, 41] else txtB (longL p)
theorem cyP_length : ∀ (l : List Int) (sep : UInt8), (cyP sep l).length = 2 * l.length
  | [], _ => rfl
  | x :: l, sep => by simp [cyP, cyP_length l 32]; omega
theorem cyP_snoc : ∀ (l : List Int) (sep : UInt8) (x : Int), cyP sep (l ++ [x]) = cyP sep l ++ [if l = [] then sep else 32, dig x]
  | [], _, _ => rfl
  | y :: l, sep, x => by
    have := cyP_snoc l 32 x
    simp only [List.cons_append, cyP, this]
    by_cases e : l = []
    · subst e; simp
    · simp [e]

/-- put the successor of each point of c into p -/
def rot (c : List Int) : List Int := (List.range c.length).map fun i => c.getD ((i + 1) % c.length) 0
def ent (p c : List Int) : List Int := fl p c (rot c) c.length
theorem rot_get {c : List Int} {i : Nat} (h : i < c.length) : (rot c).getD i 0 = c.getD ((i + 1) % c.length) 0 := by simp [rot, h]
theorem length_ent (p c : List Int) : (ent p c).length = p.length := length_fl _ _ _ _
theorem ent_nil (p : List Int) : ent p [] = p := rfl

theorem ent_im {p : List Int} (h : validL p = true) {q : List Int} (hq : q.length = p.length) {x : Int} (hx : pt p x) :
    (∀ z, z ∈ cyL p x → im (ent q (cyL p x)) z = im p z) ∧ (∀ z, pt p z → z ∉ cyL p x → im (ent q (cyL p x)) z = im q z) := by
  have hl := length_cyL p x
  unfold ent
  rw [hl]
  obtain ⟨h1, h2⟩ := im_fl h (c := q) (t := rot (cyL p x)) hq hx (per p x) (Nat.le_refl _)
  refine ⟨fun z hz => ?_, fun z hz hn => ?_⟩
  · obtain ⟨i, hi, e⟩ := List.mem_map.1 hz
    have hi := List.mem_range.1 hi
    rw [← e, h1 i hi, rot_get (by omega), hl, cyL_get (Nat.mod_lt _ (by omega)), ← sq_mod h hx]
    rfl
  · exact h2 z hz (fun i hi e => hn (List.mem_map.2 ⟨i, List.mem_range.2 hi, e.symm⟩))

def entAll (q : List Int) (L : List (List Int)) : List Int := L.foldl ent q
theorem length_entAll (L : List (List Int)) : ∀ q, (entAll q L).length = q.length := by
  induction L with
  | nil => intro q; rfl
  | cons c L ih => intro q; show (entAll (ent q c) L).length = _; rw [ih, length_ent]
theorem entAll_to {p : List Int} (h : validL p = true) (k : Nat) : k ≤ (cyc p).length →
    ∀ z, pt p z → ((∃ i, i < k ∧ z ∈ cyL p (st p i)) → im (entAll (idL p.length) (longTo p k)) z = im p z) ∧ ((¬ ∃ i, i < k ∧ z ∈ cyL p (st p i)) → im (entAll (idL p.length) (longTo p k)) z = z) := by
  induction k with
  | zero =>
    intro _ z hz
    refine ⟨fun ⟨i, hi, _⟩ => by omega, fun _ => ?_⟩
    show im (idL p.length) z = z
    exact im_idL hz.1 hz.2
  | succ k ih =>
    intro hk z hz
    have ih := ih (by omega)
    have hc : (cyc p).getD k [] = cyL p (st p k) := (st_spec (by omega)).2.1
    have hpt := st_pt (p := p) (k := k) (by omega)
    rw [longTo_succ p k (by omega), hc]
    by_cases hlong : 1 < (cyL p (st p k)).length
    · rw [if_pos hlong]
      have e : entAll (idL p.length) (longTo p k ++ [cyL p (st p k)]) = ent (entAll (idL p.length) (longTo p k)) (cyL p (st p k)) := by
        unfold entAll; rw [List.foldl_append]; rfl
      rw [e]
      obtain ⟨h1, h2⟩ := ent_im h (q := entAll (idL p.length) (longTo p k)) (by rw [length_entAll, length_idL]) hpt
      by_cases hm : z ∈ cyL p (st p k)
      · exact ⟨fun _ => h1 z hm, fun hno => (hno ⟨k, by omega, hm⟩).elim⟩
      · rw [h2 z hz hm]
        refine ⟨fun ⟨i, hi, hzi⟩ => (ih z hz).1 ⟨i, ?_, hzi⟩, fun hno => (ih z hz).2 (fun ⟨i, hi, hzi⟩ => hno ⟨i, by omega, hzi⟩)⟩
        rcases Nat.lt_or_ge i k with h | h
        · exact h
        · obtain rfl : i = k := by omega
          exact (hm hzi).elim
    · rw [if_neg hlong]
      by_cases hm : z ∈ cyL p (st p k)
      · have hper : per p (st p k) = 1 := by
          have := length_cyL p (st p k)
          have := per_pos p (st p k)
          omega
        obtain ⟨i, hi, e⟩ := List.mem_map.1 hm
        have hi := List.mem_range.1 hi
        obtain rfl : i = 0 := by omega
        have e : ((st p k : Nat) : Int) = z := e
        have hfix : im p z = z := by
          have := (per_spec h hpt).2.1
          rw [hper, e] at this
          exact this
        refine ⟨fun _ => ?_, fun hno => (hno ⟨k, by omega, hm⟩).elim⟩
        rw [hfix]
        refine (ih z hz).2 (fun ⟨i, hi, hzi⟩ => ?_)
        have := st_apart h (i := i) (k := k) (by omega) (by omega) hzi hm
        omega
      · refine ⟨fun ⟨i, hi, hzi⟩ => (ih z hz).1 ⟨i, ?_, hzi⟩, fun hno => (ih z hz).2 (fun ⟨i, hi, hzi⟩ => hno ⟨i, by omega, hzi⟩)⟩
        rcases Nat.lt_or_ge i k with h | h
        · exact h
        · obtain rfl : i = k := by omega
          exact (hm hzi).elim
theorem eq_of_im {p q : List Int} (hl : q.length = p.length) (h : ∀ z, pt p z → im q z = im p z) : q = p := by
  apply List.ext_getElem hl
  intro i h1 h2
  have := h i ⟨by omega, by omega⟩
  unfold im at this
  simpa [h1, h2] using this
theorem entAll_long {p : List Int} (h : validL p = true) : entAll (idL p.length) (longL p) = p := by
  rw [← longTo_all]
  refine eq_of_im (by rw [length_entAll, length_idL]) (fun z hz => ?_)
  refine ((entAll_to h (cyc p).length (Nat.le_refl _)) z hz).1 ?_
  obtain ⟨a, b⟩ := hz
  obtain ⟨n, rfl⟩ := Int.eq_ofNat_of_zero_le a
  obtain ⟨k, hk, hm, _⟩ := st_cover (p := p) n (by omega)
  exact ⟨k, hk, hm⟩

/-- the program's way to read one cycle: the rest, the points, the marks -/
def pcGo (n : Nat) : List UInt8 → UInt8 → List Int → List Int → Option (List UInt8 × List Int × List Int)
  | b0 :: b1 :: b2 :: r, before, acc, met =>
    if b0 = before then
      if (b1.toNat : Int) - 48 < 0 ∨ (n : Int) ≤ (b1.toNat : Int) - 48 ∨ (b1.toNat : Int) - 48 ∈ met then none
      else if b2 = 41 then some (r, acc ++ [(b1.toNat : Int) - 48], ((b1.toNat : Int) - 48) :: met)
      else pcGo n (b2 :: r) 32 (acc ++ [(b1.toNat : Int) - 48]) (((b1.toNat : Int) - 48) :: met)
    else none
  | _, _, _, _ => none
def pGo (n : Nat) : Nat → List UInt8 → List Int → List Int → Option (List Int)
  | _, [], p, _ => some p
  | 0, _ :: _, _, _ => none
  | f + 1, b :: s, p, met => match pcGo n (b :: s) 40 [] met with
    | none => none
    | some (r, c, m) => pGo n f r (ent p c) m

/-- points that may still be read -/
def okPts (n : Nat) (c met : List Int) : Prop := (∀ x, x ∈ c → 0 ≤ x ∧ x < n ∧ x ∉ met) ∧ c.Nodup
theorem dig_int {x : Int} (h0 : 0 ≤ x) (h7 : x < 7) : ((dig x).toNat : Int) - 48 = x := by rw [dig_nat h0 h7]; omega
theorem pcGo_cy {n : Nat} (hn : n ≤ 7) (l : List Int) : ∀ (sep : UInt8) (x : Int) (acc met : List Int) (rest : List UInt8), okPts n (x :: l) met →
    ∃ m, pcGo n (cyP sep (x :: l) ++ 41 :: rest) sep acc met = some (rest, acc ++ x :: l, m) ∧ ∀ y, y ∈ m ↔ y ∈ x :: l ∨ y ∈ met := by
  induction l with
  | nil =>
    intro sep x acc met rest h
    obtain ⟨h0, h1, h2⟩ := h.1 x (by simp)
    have e := dig_int h0 (show x < 7 by omega)
    refine ⟨x :: met, ?_, fun y => by simp⟩
    show pcGo n (sep :: dig x :: 41 :: rest) sep acc met = _
    unfold pcGo
    rw [if_pos rfl, e, if_neg (by intro hc; rcases hc with hc | hc | hc; omega; omega; exact h2 hc), if_pos rfl]
  | cons y l ih =>
    intro sep x acc met rest h
    obtain ⟨h0, h1, h2⟩ := h.1 x (by simp)
    have e := dig_int h0 (show x < 7 by omega)
    have hnd := List.nodup_cons.1 h.2
    have hok : okPts n (y :: l) (x :: met) := ⟨fun z hz => by
      obtain ⟨k0, k1, k2⟩ := h.1 z (List.mem_cons_of_mem _ hz)
      refine ⟨k0, k1, fun hm => ?_⟩
      rcases List.mem_cons.1 hm with hm | hm
      · exact hnd.1 (hm ▸ hz)
      · exact k2 hm, hnd.2⟩
    obtain ⟨m, hm1, hm2⟩ := ih 32 y (acc ++ [x]) (x :: met) rest hok
    refine ⟨m, ?_, fun z => ?_⟩
    · show pcGo n (sep :: dig x :: 32 :: (dig y :: cyP 32 l ++ 41 :: rest)) sep acc met = _
      unfold pcGo
      rw [if_pos rfl, e, if_neg (by intro hc; rcases hc with hc | hc | hc; omega; omega; exact h2 hc), if_neg (by decide)]
      have : pcGo n (32 :: (dig y :: cyP 32 l ++ 41 :: rest)) 32 (acc ++ [x]) (x :: met) = some (rest, acc ++ [x] ++ y :: l, m) := hm1
      rw [this]
      simp
    · rw [hm2 z]
      simp only [List.mem_cons]
      constructor
      · rintro ((h | h) | (h | h))
        · exact .inl (.inr (.inl h))
        · exact .inl (.inr (.inr h))
        · exact .inl (.inl h)
        · exact .inr h
      · rintro ((h | (h | h)) | h)
        · exact .inr (.inl h)
        · exact .inl (.inl h)
        · exact .inl (.inr h)
        · exact .inr (.inr h)
theorem pGo_all {n : Nat} (hn : n ≤ 7) (L : List (List Int)) : ∀ (f : Nat) (p met : List Int), L.length ≤ f → (∀ c, c ∈ L → c ≠ []) → okPts n L.flatten met → pGo n f (txtB L) p met = some (entAll p L) := by
  induction L with
  | nil => intro f p met _ _ _; cases f <;> rfl
  | cons c L ih =>
    intro f p met hf hne hok
    obtain ⟨f, rfl⟩ : ∃ g, f = g + 1 := ⟨f - 1, by simp at hf; omega⟩
    obtain ⟨x, l, rfl⟩ : ∃ x l, c = x :: l := by
      cases c with
      | nil => exact (hne [] (by simp) rfl).elim
      | cons x l => exact ⟨x, l, rfl⟩
    rw [List.flatten_cons] at hok
    have hnd := List.nodup_append.1 hok.2
    have h1 : okPts n (x :: l) met := ⟨fun z hz => hok.1 z (List.mem_append.2 (.inl hz)), hnd.1⟩
    obtain ⟨m, hm1, hm2⟩ := pcGo_cy hn l 40 x [] met (txtB L) h1
    have e : txtB ((x :: l) :: L) = 40 :: (dig x :: cyP 32 l ++ 41 :: txtB L) := by simp [txtB, cyB, cyP]
    have e2 : cyP 40 (x :: l) ++ 41 :: txtB L = 40 :: (dig x :: cyP 32 l ++ 41 :: txtB L) := rfl
    rw [e2] at hm1
    rw [e]
    unfold pGo
    rw [hm1]
    show pGo n f (txtB L) (ent p ([] ++ x :: l)) m = _
    rw [List.nil_append, ih f _ _ (by simp at hf; omega) (fun d hd => hne d (by simp [hd])) ⟨fun z hz => ?_, hnd.2.1⟩]
    · rfl
    · obtain ⟨k0, k1, k2⟩ := hok.1 z (List.mem_append.2 (.inr hz))
      refine ⟨k0, k1, fun hm => ?_⟩
      rcases (hm2 z).1 hm with h | h
      · exact hnd.2.2 z h z hz rfl
      · exact k2 h

/-- the reference's way to read -/
def rGo (n : Nat) : List UInt8 → List Int → List Int → Option (List Int)
  | [], p, _ => some p
  | b :: s, p, c =>
    if 48 ≤ b.toNat ∧ b.toNat ≤ 57 then
      if (n : Int) ≤ (b.toNat : Int) - 48 then none else rGo n s p (c ++ [(b.toNat : Int) - 48])
    else if b = 40 then rGo n s p []
    else if b = 41 then rGo n s (ent p c) c
    else rGo n s p c
theorem rGo_cy {n : Nat} (hn : n ≤ 7) (l : List Int) : ∀ (p acc : List Int) (rest : List UInt8), (∀ x, x ∈ l → 0 ≤ x ∧ x < n) → rGo n (cyP 32 l ++ 41 :: rest) p acc = rGo n rest (ent p (acc ++ l)) (acc ++ l) := by
  induction l with
  | nil =>
    intro p acc rest _
    show rGo n (41 :: rest) p acc = _
    rw [rGo, if_neg (by decide), if_neg (by decide), if_pos rfl, List.append_nil]
  | cons x l ih =>
    intro p acc rest h
    obtain ⟨h0, h1⟩ := h x (by simp)
    have e := dig_int h0 (show x < 7 by omega)
    have e2 := dig_nat h0 (show x < 7 by omega)
    show rGo n (32 :: dig x :: (cyP 32 l ++ 41 :: rest)) p acc = _
    rw [rGo, if_neg (by decide), if_neg (by decide), if_neg (by decide), rGo, if_pos (by omega), e, if_neg (by omega), ih p _ rest (fun y hy => h y (by simp [hy]))]
    simp
theorem rGo_all {n : Nat} (hn : n ≤ 7) (L : List (List Int)) : ∀ (p acc : List Int), (∀ c, c ∈ L → c ≠ [] ∧ ∀ x, x ∈ c → 0 ≤ x ∧ x < n) → rGo n (txtB L) p acc = some (entAll p L) := by
  induction L with
  | nil => intro p acc _; rfl
  | cons c L ih =>
    intro p acc hne
    obtain ⟨x, l, rfl⟩ : ∃ x l, c = x :: l := by
      cases c with
      | nil => exact ((hne [] (by simp)).1 rfl).elim
      | cons x l => exact ⟨x, l, rfl⟩
    have hc := (hne (x :: l) (by simp)).2
    obtain ⟨h0, h1⟩ := hc x (by simp)
    have e := dig_int h0 (show x < 7 by omega)
    have e2 := dig_nat h0 (show x < 7 by omega)
    have e3 : txtB ((x :: l) :: L) = 40 :: (dig x :: (cyP 32 l ++ 41 :: txtB L)) := by simp [txtB, cyB, cyP]
    rw [e3, rGo, if_neg (by decide), if_pos rfl, rGo, if_pos (by omega), e, if_neg (by omega), rGo_cy hn l p _ _ (fun y hy => hc y (by simp [hy]))]
    rw [ih _ _ (fun d hd => hne d (by simp [hd]))]
    rfl
theorem long_sub (p : List Int) : (longL p).flatten.Sublist (cyc p).flatten := flat_sub (List.filter_sublist)
theorem long_pts {p : List Int} (h : validL p = true) : okPts p.length (longL p).flatten [] := by
  refine ⟨fun x hx => ?_, List.Nodup.sublist (long_sub p) (cyc_flat_nodup h)⟩
  obtain ⟨c, hc, hx⟩ := List.mem_flatten.1 hx
  obtain ⟨k, hk, rfl⟩ := cyc_mem (List.mem_filter.1 hc).1
  have := cyL_pt h (st_pt hk) x hx
  exact ⟨this.1, this.2, by simp⟩
theorem long_ne {p : List Int} {c : List Int} (hc : c ∈ longL p) : c ≠ [] := fun e => by
  have := of_decide_eq_true (List.mem_filter.1 hc).2
  rw [e] at this
  simp at this
theorem txtB_length : ∀ L : List (List Int), (txtB L).length = 2 * L.flatten.length + L.length
  | [] => rfl
  | c :: L => by
    have := txtB_length L
    simp only [txtB, List.flatMap_cons, List.length_append, cyB, cyP_length, List.flatten_cons, List.length_cons, List.length_nil] at this ⊢
    omega
theorem long_flat_len {p : List Int} (h : validL p = true) : (longL p).flatten.length ≤ 7 := by
  have h1 := nodup_sub _ (idL p.length) (long_pts h).2 (fun x hx => mem_idL.2 ⟨((long_pts h).1 x hx).1, ((long_pts h).1 x hx).2.1⟩)
  rw [length_idL] at h1
  have := ((validL_iff p).1 h).2.1
  omega
theorem long_len7 {p : List Int} (h : validL p = true) : (longL p).length ≤ 7 := Nat.le_trans (List.length_filter_le _ _) (cyc_count h)
theorem txt_len {p : List Int} (h : validL p = true) : 2 ≤ (txt p).length ∧ (txt p).length ≤ 28 := by
  unfold txt
  split
  · simp
  · rename_i hne
    rw [txtB_length]
    have h1 := long_flat_len h
    have h2 := long_len7 h
    have h3 : 1 ≤ (longL p).length := List.length_pos_iff.2 hne
    have h4 : 1 ≤ (longL p).flatten.length := by
      cases hL : longL p with
      | nil => exact (hne hL).elim
      | cons c L =>
        have := long_ne (p := p) (c := c) (by rw [hL]; simp)
        have := List.length_pos_iff.2 this
        simp
        omega
    omega
theorem long_nil {p : List Int} (h : validL p = true) (e : longL p = []) : p = idL p.length := by
  have := entAll_long h
  rw [e] at this
  exact this.symm
theorem rGo_txt {p : List Int} (h : validL p = true) : rGo p.length (txt p) (idL p.length) [] = some p := by
  have h7 := ((validL_iff p).1 h).2.1
  unfold txt
  split
  · rename_i e
    rw [rGo, if_neg (by decide), if_pos rfl, rGo, if_neg (by decide), if_neg (by decide), if_pos rfl, ent_nil]
    exact congrArg some (long_nil h e).symm
  · rw [rGo_all h7 _ _ _ (fun c hc => ⟨long_ne hc, fun x hx => ⟨((long_pts h).1 x (List.mem_flatten.2 ⟨c, hc, hx⟩)).1, ((long_pts h).1 x (List.mem_flatten.2 ⟨c, hc, hx⟩)).2.1⟩⟩), entAll_long h]
theorem pGo_txt {p : List Int} (h : validL p = true) (hne : longL p ≠ []) (f : Nat) (hf : (txt p).length ≤ f) : pGo p.length f (txt p) (idL p.length) [] = some p := by
  have h7 := ((validL_iff p).1 h).2.1
  unfold txt at hf ⊢
  rw [if_neg hne] at hf ⊢
  rw [txtB_length] at hf
  rw [pGo_all h7 _ f _ _ (by omega) (fun c hc => long_ne hc) (long_pts h), entAll_long h]

/-- the permutation of n points with the text s -/
def prs (n : Nat) (s : List UInt8) (p : Option (List Int)) : Prop :=
  (∀ q, p = some q → validL q = true ∧ q.length = n ∧ txt q = s) ∧ (p = none → ∀ q, validL q = true → q.length = n → txt q ≠ s)
theorem prs_one {n : Nat} {s : List UInt8} {a b : Option (List Int)} (ha : prs n s a) (hb : prs n s b) : a = b := by
  have key : ∀ {a b : Option (List Int)} {x : List Int}, prs n s a → prs n s b → a = some x → b = some x := fun {a b x} ha hb e => by
    obtain ⟨h1, h2, h3⟩ := ha.1 x e
    cases b with
    | none => exact (hb.2 rfl x h1 h2 h3).elim
    | some y =>
      obtain ⟨k1, k2, k3⟩ := hb.1 y rfl
      have r1 := rGo_txt h1
      have r2 := rGo_txt k1
      rw [h3, h2] at r1
      rw [k3, k2] at r2
      exact r2.symm.trans r1
  cases a with
  | none => cases b with
    | none => rfl
    | some y => exact (key hb ha rfl)
  | some x => exact (key ha hb rfl).symm
end Go.Proofs.YtcnkegcogepimaaDoor
