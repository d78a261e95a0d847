/- Plain mathematics: the group that some elements generate, as all products of them; derived groups as normal closures. Nothing here speaks of the program. -/
import Derived.Test.YtdcilefiacohnaaGrpL
import Derived.Test.YtdcilefiacohnaaPowL
namespace Go.Proofs.Ytdcilefiacohnaa
open Go.RowKit

/-- a product of generators -/
inductive Gen (gs : List (List Int)) : List Int → Prop
  | one : Gen gs (idL 7)
  | step {a g : List Int} : Gen gs a → g ∈ gs → Gen gs (mulL a g)

/-- a list of elements -/
def Els (gs : List (List Int)) : Prop := ∀ g ∈ gs, El g
theorem Els.cons {g : List Int} {gs : List (List Int)} (h : El g) (hs : Els gs) : Els (g :: gs) := fun x hx => by
  rcases List.mem_cons.1 hx with e | e
  · rw [e]; exact h
  · exact hs x e
theorem Els.snoc {g : List Int} {gs : List (List Int)} (h : El g) (hs : Els gs) : Els (gs ++ [g]) := fun x hx => by
  rcases List.mem_append.1 hx with e | e
  · exact hs x e
  · rw [List.mem_singleton.1 e]; exact h

section
variable {gs hs : List (List Int)} {a b g : List Int}

theorem Gen.el (hg : Els gs) (h : Gen gs a) : El a := by
  induction h with
  | one => exact El.one
  | step _ hm ih => exact ih.mul (hg _ hm)
theorem Gen.of_mem (hg : Els gs) (h : g ∈ gs) : Gen gs g := by
  have := Gen.step (Gen.one (gs := gs)) h
  rwa [(hg g h).one_mul] at this
theorem Gen.mul (hg : Els gs) (ha : Gen gs a) (hb : Gen gs b) : Gen gs (mulL a b) := by
  induction hb with
  | one => rw [(ha.el hg).mul_one]; exact ha
  | step hb hm ih =>
    rw [← (ha.el hg).assoc _ (hb.el hg)]
    exact ih.step hm
theorem Gen.sub (hh : Els hs) (h : ∀ g ∈ gs, Gen hs g) (ha : Gen gs a) : Gen hs a := by
  induction ha with
  | one => exact .one
  | step _ hm ih => exact ih.mul hh (h _ hm)
/-- the least: whatever holds the identity and is closed under right products with generators -/
theorem Gen.least {S : List Int → Prop} (h1 : S (idL 7)) (h2 : ∀ a g, S a → g ∈ gs → S (mulL a g)) (h : Gen gs a) : S a := by
  induction h with
  | one => exact h1
  | step _ hm ih => exact h2 _ _ ih hm
/-- a generator that is generated already makes no difference -/
theorem Gen.skip (hg : Els gs) (h : Gen gs g) : Gen (gs ++ [g]) a ↔ Gen gs a := by
  constructor
  · refine Gen.sub hg (fun x hx => ?_)
    rcases List.mem_append.1 hx with e | e
    · exact Gen.of_mem hg e
    · rw [List.mem_singleton.1 e]; exact h
  · exact Gen.sub (Els.snoc (h.el hg) hg) (fun x hx => Gen.of_mem (Els.snoc (h.el hg) hg) (List.mem_append.2 (.inl hx)))
theorem Gen.more (hg : Els (gs ++ hs)) (h : Gen gs a) : Gen (gs ++ hs) a := h.sub hg (fun _ hx => Gen.of_mem hg (List.mem_append.2 (.inl hx)))
/-- a list that holds the identity and products only, and is closed under right products, is the group -/
theorem gen_list {L : List (List Int)} (h1 : idL 7 ∈ L) (h2 : ∀ a g, a ∈ L → g ∈ gs → mulL a g ∈ L) (h3 : ∀ a ∈ L, Gen gs a) : a ∈ L ↔ Gen gs a :=
  ⟨h3 a, fun h => h.least (S := fun x => x ∈ L) h1 (fun a g ha hm => h2 a g ha hm)⟩

/-! ### inverses are powers -/
theorem small_dvd {d : Nat} (h1 : 1 ≤ d) (h7 : d ≤ 7) : d ∣ 5040 := by
  have : d = 1 ∨ d = 2 ∨ d = 3 ∨ d = 4 ∨ d = 5 ∨ d = 6 ∨ d = 7 := by omega
  rcases this with e | e | e | e | e | e | e <;> rw [e] <;> decide
theorem gen_pow (hg : Els gs) (h : Gen gs a) (k : Nat) : Gen gs (powL a k) := by
  induction k with
  | zero => rw [powL, (h.el hg).2]; exact .one
  | succ k ih => rw [powL]; exact ih.mul hg h
theorem pow_5040 (ha : El a) : powL a 5040 = idL 7 := by
  apply ext_im
  · rw [length_powL, length_idL, ha.2]
  · intro x hx
    rw [pt_len (length_powL a 5040)] at hx
    have h0 := ha.pt.1 hx
    rw [im_powL hx, im_idL h0.1 h0.2, sq_dvd ha.1 hx]
    have := per_spec ha.1 hx
    exact small_dvd (by unfold per; omega) (by have := this.1; rw [ha.2] at this; exact this)
theorem El.inv_unique (ha : El a) (hb : El b) (h : mulL b a = idL 7) : b = invL a := by
  have h1 : mulL (mulL b a) (invL a) = invL a := by rw [h, ha.inv.one_mul]
  rw [hb.assoc _ ha, ha.mul_inv, hb.mul_one] at h1
  exact h1
theorem inv_pow (ha : El a) : invL a = powL a 5039 := by
  refine (ha.inv_unique ⟨powL_valid ha.1 _, (length_powL a _).trans ha.2⟩ ?_).symm
  exact pow_5040 ha
theorem Gen.inv (hg : Els gs) (h : Gen gs a) : Gen gs (invL a) := by
  rw [inv_pow (h.el hg)]; exact gen_pow hg h _
end

/-! ### the elements as a group of their own, for identities -/
abbrev GE := {a : List Int // El a}
instance : Mul GE := ⟨fun a b => ⟨mulL a.1 b.1, a.2.mul b.2⟩⟩
def GE.one : GE := ⟨idL 7, El.one⟩
def GE.inv (a : GE) : GE := ⟨invL a.1, a.2.inv⟩
theorem GE.assoc (a b c : GE) : a * b * c = a * (b * c) := Subtype.ext (a.2.assoc _ b.2)
theorem GE.one_mul (a : GE) : GE.one * a = a := Subtype.ext a.2.one_mul
theorem GE.mul_one (a : GE) : a * GE.one = a := Subtype.ext a.2.mul_one
theorem GE.inv_mul (a : GE) : a.inv * a = GE.one := Subtype.ext a.2.inv_mul
theorem GE.mul_inv (a : GE) : a * a.inv = GE.one := Subtype.ext a.2.mul_inv
theorem GE.inv_mul_left (a b : GE) : a.inv * (a * b) = b := by rw [← GE.assoc, GE.inv_mul, GE.one_mul]
theorem GE.mul_inv_left (a b : GE) : a * (a.inv * b) = b := by rw [← GE.assoc, GE.mul_inv, GE.one_mul]
theorem GE.inv_eq {a b : GE} (h : b * a = GE.one) : b = a.inv := Subtype.ext (a.2.inv_unique b.2 (congrArg Subtype.val h))
theorem GE.inv_one : GE.one.inv = GE.one := (GE.inv_eq (GE.one_mul _)).symm
theorem GE.inv_prod (a b : GE) : (a * b).inv = b.inv * a.inv := (GE.inv_eq (by rw [GE.assoc, GE.inv_mul_left, GE.inv_mul])).symm
theorem GE.inv_inv (a : GE) : a.inv.inv = a := (GE.inv_eq (GE.mul_inv a)).symm
def GE.conj (a b : GE) : GE := b.inv * a * b
theorem GE.conj_val (a b : GE) : (GE.conj a b).1 = conjL a.1 b.1 := rfl
def GE.comm (a b : GE) : GE := a.inv * GE.conj a b

/-- the commutator, as the program makes it -/
def commG (a b : List Int) : List Int := mulL (invL a) (conjL a b)
theorem El.comm {a b : List Int} (ha : El a) (hb : El b) : El (commG a b) := ha.inv.mul (ha.conj hb)

theorem conj_mul {a b c : List Int} (ha : El a) (hb : El b) (hc : El c) : conjL (mulL a b) c = mulL (conjL a c) (conjL b c) := by
  have : GE.conj (⟨a, ha⟩ * ⟨b, hb⟩) ⟨c, hc⟩ = GE.conj ⟨a, ha⟩ ⟨c, hc⟩ * GE.conj ⟨b, hb⟩ ⟨c, hc⟩ := by
    simp only [GE.conj, GE.assoc, GE.mul_inv_left]
  exact congrArg Subtype.val this
theorem conj_conj {a b c : List Int} (ha : El a) (hb : El b) (hc : El c) : conjL a (mulL b c) = conjL (conjL a b) c := by
  have : GE.conj ⟨a, ha⟩ (⟨b, hb⟩ * ⟨c, hc⟩) = GE.conj (GE.conj ⟨a, ha⟩ ⟨b, hb⟩) ⟨c, hc⟩ := by
    simp only [GE.conj, GE.assoc, GE.inv_prod]
  exact congrArg Subtype.val this
theorem conj_one {c : List Int} (hc : El c) : conjL (idL 7) c = idL 7 := by
  have : GE.conj GE.one ⟨c, hc⟩ = GE.one := by
    simp only [GE.conj, GE.assoc, GE.one_mul, GE.inv_mul]
  exact congrArg Subtype.val this
theorem conj_by_one {a : List Int} (ha : El a) : conjL a (idL 7) = a := by
  have : GE.conj ⟨a, ha⟩ GE.one = ⟨a, ha⟩ := by
    simp only [GE.conj, GE.inv_one, GE.one_mul, GE.mul_one]
  exact congrArg Subtype.val this
theorem comm_one_left {b : List Int} (hb : El b) : commG (idL 7) b = idL 7 := by
  have : GE.comm GE.one ⟨b, hb⟩ = GE.one := by
    simp only [GE.comm, GE.conj, GE.assoc, GE.inv_one, GE.one_mul, GE.inv_mul]
  exact congrArg Subtype.val this
theorem comm_one_right {a : List Int} (ha : El a) : commG a (idL 7) = idL 7 := by
  have : GE.comm ⟨a, ha⟩ GE.one = GE.one := by
    simp only [GE.comm, GE.conj, GE.inv_one, GE.one_mul, GE.mul_one, GE.inv_mul]
  exact congrArg Subtype.val this
theorem comm_mul_left {x y z : List Int} (hx : El x) (hy : El y) (hz : El z) : commG (mulL x y) z = mulL (conjL (commG x z) y) (commG y z) := by
  have : GE.comm (⟨x, hx⟩ * ⟨y, hy⟩) ⟨z, hz⟩ = GE.conj (GE.comm ⟨x, hx⟩ ⟨z, hz⟩) ⟨y, hy⟩ * GE.comm ⟨y, hy⟩ ⟨z, hz⟩ := by
    simp only [GE.comm, GE.conj, GE.assoc, GE.inv_prod, GE.mul_inv_left]
  exact congrArg Subtype.val this
theorem comm_mul_right {x y z : List Int} (hx : El x) (hy : El y) (hz : El z) : commG x (mulL y z) = mulL (commG x z) (conjL (commG x y) z) := by
  have : GE.comm ⟨x, hx⟩ (⟨y, hy⟩ * ⟨z, hz⟩) = GE.comm ⟨x, hx⟩ ⟨z, hz⟩ * GE.conj (GE.comm ⟨x, hx⟩ ⟨y, hy⟩) ⟨z, hz⟩ := by
    simp only [GE.comm, GE.conj, GE.assoc, GE.inv_prod, GE.mul_inv_left]
  exact congrArg Subtype.val this
theorem conj_comm {x y z : List Int} (hx : El x) (hy : El y) (hz : El z) : conjL (commG x y) z = commG (conjL x z) (conjL y z) := by
  have : GE.conj (GE.comm ⟨x, hx⟩ ⟨y, hy⟩) ⟨z, hz⟩ = GE.comm (GE.conj ⟨x, hx⟩ ⟨z, hz⟩) (GE.conj ⟨y, hy⟩ ⟨z, hz⟩) := by
    simp only [GE.comm, GE.conj, GE.assoc, GE.inv_prod, GE.inv_inv, GE.mul_inv_left]
  exact congrArg Subtype.val this

/-! ### the derived group -/
section
variable {gs ds cs l : List (List Int)} {a b d g x : List Int}
theorem Gen.conj (hg : Els gs) (ha : Gen gs a) (hb : Gen gs b) : Gen gs (conjL a b) := ((hb.inv hg).mul hg ha).mul hg hb
theorem Gen.comm (hg : Els gs) (ha : Gen gs a) (hb : Gen gs b) : Gen gs (commG a b) := (ha.inv hg).mul hg (ha.conj hg hb)
theorem normal_gen (hd : Els ds) (hg : El g) (h2 : ∀ d ∈ ds, Gen ds (conjL d g)) (h : Gen ds d) : Gen ds (conjL d g) := by
  induction h with
  | one => rw [conj_one hg]; exact .one
  | step h hm ih => rw [conj_mul (h.el hd) (hd _ hm) hg]; exact ih.mul hd (h2 _ hm)
theorem normal_all (hd : Els ds) (hg : Els gs) (h2 : ∀ d ∈ ds, ∀ g ∈ gs, Gen ds (conjL d g)) (h : Gen ds d) (ha : Gen gs a) : Gen ds (conjL d a) := by
  induction ha with
  | one => rw [conj_by_one (h.el hd)]; exact h
  | step ha hm ih =>
    rw [conj_conj (h.el hd) (ha.el hg) (hg _ hm)]
    exact normal_gen hd (hg _ hm) (fun d hd' => h2 d hd' _ hm) ih
theorem comm_right (hd : Els ds) (hg : Els gs) (h1 : ∀ a ∈ gs, ∀ b ∈ gs, Gen ds (commG a b)) (h2 : ∀ d ∈ ds, ∀ g ∈ gs, Gen ds (conjL d g)) (hm : g ∈ gs) (hb : Gen gs b) : Gen ds (commG g b) := by
  induction hb with
  | one => rw [comm_one_right (hg _ hm)]; exact .one
  | step hb hk ih =>
    rw [comm_mul_right (hg _ hm) (hb.el hg) (hg _ hk)]
    exact (h1 _ hm _ hk).mul hd (normal_gen hd (hg _ hk) (fun d hd' => h2 d hd' _ hk) ih)
theorem comm_all (hd : Els ds) (hg : Els gs) (h1 : ∀ a ∈ gs, ∀ b ∈ gs, Gen ds (commG a b)) (h2 : ∀ d ∈ ds, ∀ g ∈ gs, Gen ds (conjL d g)) (ha : Gen gs a) (hb : Gen gs b) : Gen ds (commG a b) := by
  induction ha with
  | one => rw [comm_one_left (hb.el hg)]; exact .one
  | step ha hm ih =>
    rw [comm_mul_left (ha.el hg) (hg _ hm) (hb.el hg)]
    exact (normal_gen hd (hg _ hm) (fun d hd' => h2 d hd' _ hm) ih).mul hd (comm_right hd hg h1 h2 hm hb)
/-- commutators of all elements: what they generate is mapped to itself by conjugation -/
theorem der_conj (hg : Els gs) (hc : ∀ x, x ∈ cs ↔ ∃ a b, Gen gs a ∧ Gen gs b ∧ x = commG a b) (h : Gen cs d) (ha : Gen gs a) : Gen cs (conjL d a) := by
  have hcs : Els cs := fun x hx => by
    obtain ⟨u, v, hu, hv, rfl⟩ := (hc x).1 hx
    exact (hu.el hg).comm (hv.el hg)
  refine normal_gen hcs (ha.el hg) (fun x hx => ?_) h
  obtain ⟨u, v, hu, hv, rfl⟩ := (hc x).1 hx
  rw [conj_comm (hu.el hg) (hv.el hg) (ha.el hg)]
  exact Gen.of_mem hcs ((hc _).2 ⟨_, _, hu.conj hg ha, hv.conj hg ha, rfl⟩)
/-- the normal closure of the generators' commutators is what all commutators generate -/
theorem der_eq (hd : Els ds) (hg : Els gs) (hc : ∀ x, x ∈ cs ↔ ∃ a b, Gen gs a ∧ Gen gs b ∧ x = commG a b) (h1 : ∀ a ∈ gs, ∀ b ∈ gs, Gen ds (commG a b)) (h2 : ∀ d ∈ ds, ∀ g ∈ gs, Gen ds (conjL d g)) (h3 : ∀ d ∈ ds, Gen cs d) : Gen ds x ↔ Gen cs x := by
  have hcs : Els cs := fun x hx => by
    obtain ⟨u, v, hu, hv, rfl⟩ := (hc x).1 hx
    exact (hu.el hg).comm (hv.el hg)
  refine ⟨fun h => h.sub hcs h3, fun h => h.sub hd (fun x hx => ?_)⟩
  obtain ⟨u, v, hu, hv, rfl⟩ := (hc x).1 hx
  exact comm_all hd hg h1 h2 hu hv
end

/-! ### how many elements there are -/
def code (l : List Int) : Nat := l.foldl (fun c x => 7 * c + x.toNat) 0
theorem e7_cases {l : List Int} (h : E7 l) : ∃ x0 x1 x2 x3 x4 x5 x6 : Nat, l = [(x0 : Int), (x1 : Int), (x2 : Int), (x3 : Int), (x4 : Int), (x5 : Int), (x6 : Int)] ∧ x0 < 7 ∧ x1 < 7 ∧ x2 < 7 ∧ x3 < 7 ∧ x4 < 7 ∧ x5 < 7 ∧ x6 < 7 := by
  match l, h with
  | [x0, x1, x2, x3, x4, x5, x6], h =>
    have g0 := h.2 0 (by omega)
    have g1 := h.2 1 (by omega)
    have g2 := h.2 2 (by omega)
    have g3 := h.2 3 (by omega)
    have g4 := h.2 4 (by omega)
    have g5 := h.2 5 (by omega)
    have g6 := h.2 6 (by omega)
    simp only [List.getD_cons_zero, List.getD_cons_succ] at g0 g1 g2 g3 g4 g5 g6
    exact ⟨x0.toNat, x1.toNat, x2.toNat, x3.toNat, x4.toNat, x5.toNat, x6.toNat, by simp only [List.cons.injEq, and_true]; omega, by omega, by omega, by omega, by omega, by omega, by omega, by omega⟩
theorem code_lt {l : List Int} (h : E7 l) : code l < 823543 := by
  obtain ⟨x0, x1, x2, x3, x4, x5, x6, rfl, _⟩ := e7_cases h
  simp only [code, List.foldl_cons, List.foldl_nil, Int.toNat_natCast]; omega
theorem code_inj {a b : List Int} (ha : E7 a) (hb : E7 b) (h : code a = code b) : a = b := by
  obtain ⟨x0, x1, x2, x3, x4, x5, x6, rfl, _⟩ := e7_cases ha
  obtain ⟨y0, y1, y2, y3, y4, y5, y6, rfl, _⟩ := e7_cases hb
  simp only [code, List.foldl_cons, List.foldl_nil, Int.toNat_natCast] at h
  simp only [List.cons.injEq, and_true]; omega
theorem els_len {L : List (List Int)} (h : L.Nodup) (he : ∀ a ∈ L, E7 a) : L.length ≤ 823543 := by
  have h1 : (L.map code).Nodup := by
    unfold List.Nodup at h ⊢
    rw [List.pairwise_map]
    exact h.imp_of_mem (fun ha hb hne e => hne (code_inj (he _ ha) (he _ hb) e))
  have := nodup_len 823543 (L.map code) h1 (fun x hx => by
    obtain ⟨a, ha, rfl⟩ := List.mem_map.1 hx
    exact code_lt (he a ha))
  rwa [List.length_map] at this
end Go.Proofs.Ytdcilefiacohnaa
