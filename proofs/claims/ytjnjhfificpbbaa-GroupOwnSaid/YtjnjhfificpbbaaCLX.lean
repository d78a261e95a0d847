/- Plain mathematics: the group that some elements generate, as all products of them; derived groups as normal closures. Nothing here speaks of the program. | Sets of elements: maps from elements to bool that only ever hold true. | The struct closed, and its closure add. | (*closed).extend. -/
import Derived.Test.YtjnjhfificpbbaaELM
import Derived.Test.YtjnjhfificpbbaaPowL
import Derived.Test.YtjnjhfificpbbaaProg
import Derived.Maps.Own
import Derived.Maps.OwnOps
import Derived.Maps.OwnSet
import Derived.Maps.Views
import Derived.WideKeyPair
import Derived.DeepKeys4
import Derived.Great.BuildSlice
import Derived.Maps.AppendAt
import Derived.Test.YtjnjhfificpbbaaRange
import Derived.Deep.MidRow
namespace Go.Proofs.Ytjnjhfificpbbaa
open Go.RowKit

/-- a product of generators -/
inductive Gen (gs : List (List Int)) : List Int → Prop
  | one : Gen gs (idL 7)
  | step {a g : List Int} : Gen gs a → g ∈ gs → Gen gs (mulL a g)

/-- a list of elements -/
def Els (gs : List (List Int)) : Prop := ∀ g ∈ gs, El g
theorem Els.cons {g : List Int} {gs : List (List Int)} (h : El g) (hs : Els gs) : Els (g :: gs) := fun x hx => by
  rcases List.mem_cons.1 hx with e | e
  · rw [e]; exact h
  · exact hs x e
theorem Els.snoc {g : List Int} {gs : List (List Int)} (h : El g) (hs : Els gs) : Els (gs ++ [g]) := fun x hx => by
  rcases List.mem_append.1 hx with e | e
  · exact hs x e
  · rw [List.mem_singleton.1 e]; exact h

section
variable {gs hs : List (List Int)} {a b g : List Int}

theorem Gen.el (hg : Els gs) (h : Gen gs a) : El a := by
  induction h with
  | one => exact El.one
  | step _ hm ih => exact ih.mul (hg _ hm)
theorem Gen.of_mem (hg : Els gs) (h : g ∈ gs) : Gen gs g := by
  have := Gen.step (Gen.one (gs := gs)) h
  rwa [(hg g h).one_mul] at this
theorem Gen.mul (hg : Els gs) (ha : Gen gs a) (hb : Gen gs b) : Gen gs (mulL a b) := by
  induction hb with
  | one => rw [(ha.el hg).mul_one]; exact ha
  | step hb hm ih =>
    rw [← (ha.el hg).assoc _ (hb.el hg)]
    exact ih.step hm
theorem Gen.sub (hh : Els hs) (h : ∀ g ∈ gs, Gen hs g) (ha : Gen gs a) : Gen hs a := by
  induction ha with
  | one => exact .one
  | step _ hm ih => exact ih.mul hh (h _ hm)
/-- the least: whatever holds the identity and is closed under right products with generators -/
theorem Gen.least {S : List Int → Prop} (h1 : S (idL 7)) (h2 : ∀ a g, S a → g ∈ gs → S (mulL a g)) (h : Gen gs a) : S a := by
  induction h with
  | one => exact h1
  | step _ hm ih => exact h2 _ _ ih hm
/-- a generator that is generated already makes no difference -/
theorem Gen.skip (hg : Els gs) (h : Gen gs g) : Gen (gs ++ [g]) a ↔ Gen gs a := by
  constructor
  · refine Gen.sub hg (fun x hx => ?_)
    rcases List.mem_append.1 hx with e | e
    · exact Gen.of_mem hg e
    · rw [List.mem_singleton.1 e]; exact h
  · exact Gen.sub (Els.snoc (h.el hg) hg) (fun x hx => Gen.of_mem (Els.snoc (h.el hg) hg) (List.mem_append.2 (.inl hx)))
theorem Gen.more (hg : Els (gs ++ hs)) (h : Gen gs a) : Gen (gs ++ hs) a := h.sub hg (fun _ hx => Gen.of_mem hg (List.mem_append.2 (.inl hx)))
/-- a list that holds the identity and products only, and is closed under right products, is the group -/
theorem gen_list {L : List (List Int)} (h1 : idL 7 ∈ L) (h2 : ∀ a g, a ∈ L → g ∈ gs → mulL a g ∈ L) (h3 : ∀ a ∈ L, Gen gs a) : a ∈ L ↔ Gen gs a :=
  ⟨h3 a, fun h => h.least (S := fun x => x ∈ L) h1 (fun a g ha hm => h2 a g ha hm)⟩

/-! ### inverses are powers -/
theorem small_dvd {d : Nat} (h1 : 1 ≤ d) (h7 : d ≤ 7) : d ∣ 5040 := by
  have : d = 1 ∨ d = 2 ∨ d = 3 ∨ d = 4 ∨ d = 5 ∨ d = 6 ∨ d = 7 := by omega
  rcases this with e | e | e | e | e | e | e <;> rw [e] <;> decide
theorem gen_pow (hg : Els gs) (h : Gen gs a) (k : Nat) : Gen gs (powL a k) := by
  induction k with
  | zero => rw [powL, (h.el hg).2]; exact .one
  | succ k ih => rw [powL]; exact ih.mul hg h
theorem pow_5040 (ha : El a) : powL a 5040 = idL 7 := by
  apply ext_im
  · rw [length_powL, length_idL, ha.2]
  · intro x hx
    rw [pt_len (length_powL a 5040)] at hx
    have h0 := ha.pt.1 hx
    rw [im_powL hx, im_idL h0.1 h0.2, sq_dvd ha.1 hx]
    have := per_spec ha.1 hx
    exact small_dvd (by unfold per; omega) (by have := this.1; rw [ha.2] at this; exact this)
theorem El.inv_unique (ha : El a) (hb : El b) (h : mulL b a = idL 7) : b = invL a := by
  have h1 : mulL (mulL b a) (invL a) = invL a := by rw [h, ha.inv.one_mul]
  rw [hb.assoc _ ha, ha.mul_inv, hb.mul_one] at h1
  exact h1
theorem inv_pow (ha : El a) : invL a = powL a 5039 := by
  refine (ha.inv_unique ⟨powL_valid ha.1 _, (length_powL a _).trans ha.2⟩ ?_).symm
  exact pow_5040 ha
theorem Gen.inv (hg : Els gs) (h : Gen gs a) : Gen gs (invL a) := by
  rw [inv_pow (h.el hg)]; exact gen_pow hg h _
end

/-! ### the elements as a group of their own, for identities -/
abbrev GE := {a : List Int // El a}
instance : Mul GE := ⟨fun a b => ⟨mulL a.1 b.1, a.2.mul b.2⟩⟩
def GE.one : GE := ⟨idL 7, El.one⟩
def GE.inv (a : GE) : GE := ⟨invL a.1, a.2.inv⟩
theorem GE.assoc (a b c : GE) : a * b * c = a * (b * c) := Subtype.ext (a.2.assoc _ b.2)
theorem GE.one_mul (a : GE) : GE.one * a = a := Subtype.ext a.2.one_mul
theorem GE.mul_one (a : GE) : a * GE.one = a := Subtype.ext a.2.mul_one
theorem GE.inv_mul (a : GE) : a.inv * a = GE.one := Subtype.ext a.2.inv_mul
theorem GE.mul_inv (a : GE) : a * a.inv = GE.one := Subtype.ext a.2.mul_inv
theorem GE.inv_mul_left (a b : GE) : a.inv * (a * b) = b := by rw [← GE.assoc, GE.inv_mul, GE.one_mul]
theorem GE.mul_inv_left (a b : GE) : a * (a.inv * b) = b := by rw [← GE.assoc, GE.mul_inv, GE.one_mul]
theorem GE.inv_eq {a b : GE} (h : b * a = GE.one) : b = a.inv := Subtype.ext (a.2.inv_unique b.2 (congrArg Subtype.val h))
theorem GE.inv_one : GE.one.inv = GE.one := (GE.inv_eq (GE.one_mul _)).symm
theorem GE.inv_prod (a b : GE) : (a * b).inv = b.inv * a.inv := (GE.inv_eq (by rw [GE.assoc, GE.inv_mul_left, GE.inv_mul])).symm
theorem GE.inv_inv (a : GE) : a.inv.inv = a := (GE.inv_eq (GE.mul_inv a)).symm
def GE.conj (a b : GE) : GE := b.inv * a * b
theorem GE.conj_val (a b : GE) : (GE.conj a b).1 = conjL a.1 b.1 := rfl
def GE.comm (a b : GE) : GE := a.inv * GE.conj a b

/-- the commutator, as the program makes it -/
def commG (a b : List Int) : List Int := mulL (invL a) (conjL a b)
theorem El.comm {a b : List Int} (ha : El a) (hb : El b) : El (commG a b) := ha.inv.mul (ha.conj hb)

theorem conj_mul {a b c : List Int} (ha : El a) (hb : El b) (hc : El c) : conjL (mulL a b) c = mulL (conjL a c) (conjL b c) := by
  have : GE.conj (⟨a, ha⟩ * ⟨b, hb⟩) ⟨c, hc⟩ = GE.conj ⟨a, ha⟩ ⟨c, hc⟩ * GE.conj ⟨b, hb⟩ ⟨c, hc⟩ := by
    simp only [GE.conj, GE.assoc, GE.mul_inv_left]
  exact congrArg Subtype.val this
theorem conj_conj {a b c : List Int} (ha : El a) (hb : El b) (hc : El c) : conjL a (mulL b c) = conjL (conjL a b) c := by
  have : GE.conj ⟨a, ha⟩ (⟨b, hb⟩ * ⟨c, hc⟩) = GE.conj (GE.conj ⟨a, ha⟩ ⟨b, hb⟩) ⟨c, hc⟩ := by
    simp only [GE.conj, GE.assoc, GE.inv_prod]
  exact congrArg Subtype.val this
theorem conj_one {c : List Int} (hc : El c) : conjL (idL 7) c = idL 7 := by
  have : GE.conj GE.one ⟨c, hc⟩ = GE.one := by
    simp only [GE.conj, GE.assoc, GE.one_mul, GE.inv_mul]
  exact congrArg Subtype.val this
theorem conj_by_one {a : List Int} (ha : El a) : conjL a (idL 7) = a := by
  have : GE.conj ⟨a, ha⟩ GE.one = ⟨a, ha⟩ := by
    simp only [GE.conj, GE.inv_one, GE.one_mul, GE.mul_one]
  exact congrArg Subtype.val this
theorem comm_one_left {b : List Int} (hb : El b) : commG (idL 7) b = idL 7 := by
  have : GE.comm GE.one ⟨b, hb⟩ = GE.one := by
    simp only [GE.comm, GE.conj, GE.assoc, GE.inv_one, GE.one_mul, GE.inv_mul]
  exact congrArg Subtype.val this
theorem comm_one_right {a : List Int} (ha : El a) : commG a (idL 7) = idL 7 := by
  have : GE.comm ⟨a, ha⟩ GE.one = GE.one := by
    simp only [GE.comm, GE.conj, GE.inv_one, GE.one_mul, GE.mul_one, GE.inv_mul]
  exact congrArg Subtype.val this
theorem comm_mul_left {x y z : List Int} (hx : El x) (hy : El y) (hz : El z) : commG (mulL x y) z = mulL (conjL (commG x z) y) (commG y z) := by
  have : GE.comm (⟨x, hx⟩ * ⟨y, hy⟩) ⟨z, hz⟩ = GE.conj (GE.comm ⟨x, hx⟩ ⟨z, hz⟩) ⟨y, hy⟩ * GE.comm ⟨y, hy⟩ ⟨z, hz⟩ := by
    simp only [GE.comm, GE.conj, GE.assoc, GE.inv_prod, GE.mul_inv_left]
  exact congrArg Subtype.val this
theorem comm_mul_right {x y z : List Int} (hx : El x) (hy : El y) (hz : El z) : commG x (mulL y z) = mulL (commG x z) (conjL (commG x y) z) := by
  have : GE.comm ⟨x, hx⟩ (⟨y, hy⟩ * ⟨z, hz⟩) = GE.comm ⟨x, hx⟩ ⟨z, hz⟩ * GE.conj (GE.comm ⟨x, hx⟩ ⟨y, hy⟩) ⟨z, hz⟩ := by
    simp only [GE.comm, GE.conj, GE.assoc, GE.inv_prod, GE.mul_inv_left]
  exact congrArg Subtype.val this
theorem conj_comm {x y z : List Int} (hx : El x) (hy : El y) (hz : El z) : conjL (commG x y) z = commG (conjL x z) (conjL y z) := by
  have : GE.conj (GE.comm ⟨x, hx⟩ ⟨y, hy⟩) ⟨z, hz⟩ = GE.comm (GE.conj ⟨x, hx⟩ ⟨z, hz⟩) (GE.conj ⟨y, hy⟩ ⟨z, hz⟩) := by
    simp only [GE.comm, GE.conj, GE.assoc, GE.inv_prod, GE.inv_inv, GE.mul_inv_left]
  exact congrArg Subtype.val this

/-! ### the derived group -/
section
variable {gs ds cs l : List (List Int)} {a b d g x : List Int}
theorem Gen.conj (hg : Els gs) (ha : Gen gs a) (hb : Gen gs b) : Gen gs (conjL a b) := ((hb.inv hg).mul hg ha).mul hg hb
theorem Gen.comm (hg : Els gs) (ha : Gen gs a) (hb : Gen gs b) : Gen gs (commG a b) := (ha.inv hg).mul hg (ha.conj hg hb)
theorem normal_gen (hd : Els ds) (hg : El g) (h2 : ∀ d ∈ ds, Gen ds (conjL d g)) (h : Gen ds d) : Gen ds (conjL d g) := by
  induction h with
  | one => rw [conj_one hg]; exact .one
  | step h hm ih => rw [conj_mul (h.el hd) (hd _ hm) hg]; exact ih.mul hd (h2 _ hm)
theorem normal_all (hd : Els ds) (hg : Els gs) (h2 : ∀ d ∈ ds, ∀ g ∈ gs, Gen ds (conjL d g)) (h : Gen ds d) (ha : Gen gs a) : Gen ds (conjL d a) := by
  induction ha with
  | one => rw [conj_by_one (h.el hd)]; exact h
  | step ha hm ih =>
    rw [conj_conj (h.el hd) (ha.el hg) (hg _ hm)]
    exact normal_gen hd (hg _ hm) (fun d hd' => h2 d hd' _ hm) ih
theorem comm_right (hd : Els ds) (hg : Els gs) (h1 : ∀ a ∈ gs, ∀ b ∈ gs, Gen ds (commG a b)) (h2 : ∀ d ∈ ds, ∀ g ∈ gs, Gen ds (conjL d g)) (hm : g ∈ gs) (hb : Gen gs b) : Gen ds (commG g b) := by
  induction hb with
  | one => rw [comm_one_right (hg _ hm)]; exact .one
  | step hb hk ih =>
    rw [comm_mul_right (hg _ hm) (hb.el hg) (hg _ hk)]
    exact (h1 _ hm _ hk).mul hd (normal_gen hd (hg _ hk) (fun d hd' => h2 d hd' _ hk) ih)
theorem comm_all (hd : Els ds) (hg : Els gs) (h1 : ∀ a ∈ gs, ∀ b ∈ gs, Gen ds (commG a b)) (h2 : ∀ d ∈ ds, ∀ g ∈ gs, Gen ds (conjL d g)) (ha : Gen gs a) (hb : Gen gs b) : Gen ds (commG a b) := by
  induction ha with
  | one => rw [comm_one_left (hb.el hg)]; exact .one
  | step ha hm ih =>
    rw [comm_mul_left (ha.el hg) (hg _ hm) (hb.el hg)]
    exact (normal_gen hd (hg _ hm) (fun d hd' => h2 d hd' _ hm) ih).mul hd (comm_right hd hg h1 h2 hm hb)
/-- commutators of all elements: what they generate is mapped to itself by conjugation -/
theorem der_conj (hg : Els gs) (hc : ∀ x, x ∈ cs ↔ ∃ a b, Gen gs a ∧ Gen gs b ∧ x = commG a b) (h : Gen cs d) (ha : Gen gs a) : Gen cs (conjL d a) := by
  have hcs : Els cs := fun x hx => by
    obtain ⟨u, v, hu, hv, rfl⟩ := (hc x).1 hx
    exact (hu.el hg).comm (hv.el hg)
  refine normal_gen hcs (ha.el hg) (fun x hx => ?_) h
  obtain ⟨u, v, hu, hv, rfl⟩ := (hc x).1 hx
  rw [conj_comm (hu.el hg) (hv.el hg) (ha.el hg)]
  exact Gen.of_mem hcs ((hc _).2 ⟨_, _, hu.conj hg ha, hv.conj hg ha, rfl⟩)
/-- the normal closure of the generators' commutators is what all commutators generate -/
theorem der_eq (hd : Els ds) (hg : Els gs) (hc : ∀ x, x ∈ cs ↔ ∃ a b, Gen gs a ∧ Gen gs b ∧ x = commG a b) (h1 : ∀ a ∈ gs, ∀ b ∈ gs, Gen ds (commG a b)) (h2 : ∀ d ∈ ds, ∀ g ∈ gs, Gen ds (conjL d g)) (h3 : ∀ d ∈ ds, Gen cs d) : Gen ds x ↔ Gen cs x := by
  have hcs : Els cs := fun x hx => by
    obtain ⟨u, v, hu, hv, rfl⟩ := (hc x).1 hx
    exact (hu.el hg).comm (hv.el hg)
  refine ⟨fun h => h.sub hcs h3, fun h => h.sub hd (fun x hx => ?_)⟩
  obtain ⟨u, v, hu, hv, rfl⟩ := (hc x).1 hx
  exact comm_all hd hg h1 h2 hu hv
end

/-! ### how many elements there are -/
def code (l : List Int) : Nat := l.foldl (fun c x => 7 * c + x.toNat) 0
theorem e7_cases {l : List Int} (h : E7 l) : ∃ x0 x1 x2 x3 x4 x5 x6 : Nat, l = [(x0 : Int), (x1 : Int), (x2 : Int), (x3 : Int), (x4 : Int), (x5 : Int), (x6 : Int)] ∧ x0 < 7 ∧ x1 < 7 ∧ x2 < 7 ∧ x3 < 7 ∧ x4 < 7 ∧ x5 < 7 ∧ x6 < 7 := by
  match l, h with
  | [x0, x1, x2, x3, x4, x5, x6], h =>
    have g0 := h.2 0 (by omega)
    have g1 := h.2 1 (by omega)
    have g2 := h.2 2 (by omega)
    have g3 := h.2 3 (by omega)
    have g4 := h.2 4 (by omega)
    have g5 := h.2 5 (by omega)
    have g6 := h.2 6 (by omega)
    simp only [List.getD_cons_zero, List.getD_cons_succ] at g0 g1 g2 g3 g4 g5 g6
    exact ⟨x0.toNat, x1.toNat, x2.toNat, x3.toNat, x4.toNat, x5.toNat, x6.toNat, by simp only [List.cons.injEq, and_true]; omega, by omega, by omega, by omega, by omega, by omega, by omega, by omega⟩
theorem code_lt {l : List Int} (h : E7 l) : code l < 823543 := by
  obtain ⟨x0, x1, x2, x3, x4, x5, x6, rfl, _⟩ := e7_cases h
  simp only [code, List.foldl_cons, List.foldl_nil, Int.toNat_natCast]; omega
theorem code_inj {a b : List Int} (ha : E7 a) (hb : E7 b) (h : code a = code b) : a = b := by
  obtain ⟨x0, x1, x2, x3, x4, x5, x6, rfl, _⟩ := e7_cases ha
  obtain ⟨y0, y1, y2, y3, y4, y5, y6, rfl, _⟩ := e7_cases hb
  simp only [code, List.foldl_cons, List.foldl_nil, Int.toNat_natCast] at h
  simp only [List.cons.injEq, and_true]; omega
theorem els_len {L : List (List Int)} (h : L.Nodup) (he : ∀ a ∈ L, E7 a) : L.length ≤ 823543 := by
  have h1 : (L.map code).Nodup := by
    unfold List.Nodup at h ⊢
    rw [List.pairwise_map]
    exact h.imp_of_mem (fun ha hb hne e => hne (code_inj (he _ ha) (he _ hb) e))
  have := nodup_len 823543 (L.map code) h1 (fun x hx => by
    obtain ⟨a, ha, rfl⟩ := List.mem_map.1 hx
    exact code_lt (he a ha))
  rwa [List.length_map] at this
end Go.Proofs.Ytjnjhfificpbbaa
namespace Go.Proofs.Ytjnjhfificpbbaa
open Go Go.RowKit Go.WideMaps

theorem arrEl : ArrKey Try.prog 78 5 7 := ⟨Try.underlying78, by kernel_rfl, by kernel_rfl, by kernel_rfl⟩
theorem keyedEl : Maps.Keyed Try.prog 78 := Maps.Keyed.of_law arrEl.law
/-- what an element reads as, as a key -/
def keyL (l : List Int) : Lit := .string (keyBytes (l.map (Lit.int .u8)))

theorem wf8 {x : Int} (h0 : 0 ≤ x) (h1 : x < 7) : (Lit.int .u8 x).wf = true := by
  have e1 : IntKind.u8.min = 0 := by decide
  have e2 : IntKind.u8.max = 255 := by decide
  simp [Lit.wf, e1, e2]; omega

theorem keyOf_el {l : List Int} (h : E7 l) : keyOf Try.prog 78 (.agg (u8s l)) = some (keyL l) := by
  match l, h with
  | [x0, x1, x2, x3, x4, x5, x6], h =>
    have w0 := wf8 (h.2 0 (by omega)).1 (h.2 0 (by omega)).2
    have w1 := wf8 (h.2 1 (by omega)).1 (h.2 1 (by omega)).2
    have w2 := wf8 (h.2 2 (by omega)).1 (h.2 2 (by omega)).2
    have w3 := wf8 (h.2 3 (by omega)).1 (h.2 3 (by omega)).2
    have w4 := wf8 (h.2 4 (by omega)).1 (h.2 4 (by omega)).2
    have w5 := wf8 (h.2 5 (by omega)).1 (h.2 5 (by omega)).2
    have w6 := wf8 (h.2 6 (by omega)).1 (h.2 6 (by omega)).2
    have hsz : ∃ m, Try.prog.types.size = m + 1 := ⟨Try.prog.types.size - 1, by kernel_rfl⟩
    have A := arrEl
    have hkt := A.keyType hsz
    obtain ⟨m, hm⟩ := hsz
    show keyOf Try.prog 78 (.agg #[.int .u8 x0, .int .u8 x1, .int .u8 x2, .int .u8 x3, .int .u8 x4, .int .u8 x5, .int .u8 x6]) = some (.string (keyBytes [.int .u8 x0, .int .u8 x1, .int .u8 x2, .int .u8 x3, .int .u8 x4, .int .u8 x5, .int .u8 x6]))
    simp only [List.getD_cons_zero, List.getD_cons_succ] at w0 w1 w2 w3 w4 w5 w6
    clear h
    unfold keyOf
    simp only [A.hu]
    rw [if_pos (by simp [hkt, Value.formed, A.hu, A.size]), hm]
    unfold Program.keyLits
    simp only [A.hu, Value.cells]
    rw [if_pos (by rw [A.size]; rfl), show List.range 7 = [0, 1, 2, 3, 4, 5, 6] from rfl]
    simp only [List.mapM_cons, List.mapM_nil]
    simp [A.one, Program.keyLits, Try.underlying5, w0, w1, w2, w3, w4, w5, w6]

theorem u8s_inj {a b : List Int} (h : u8s a = u8s b) : a = b := by
  have h1 : a.map (Value.int .u8) = b.map (Value.int .u8) := by
    have := congrArg Array.toList h
    simpa [u8s] using this
  clear h
  induction a generalizing b with
  | nil => cases b with
    | nil => rfl
    | cons y b => cases h1
  | cons x a ih => cases b with
    | nil => cases h1
    | cons y b =>
      simp only [List.map_cons, List.cons.injEq, Value.int.injEq, true_and] at h1
      rw [h1.1, ih h1.2]

theorem keyL_inj {a b : List Int} (ha : E7 a) (hb : E7 b) (h : keyL a = keyL b) : a = b := by
  have h1 := keyOf_el ha
  rw [h] at h1
  have := keyedEl.inj h1 (keyOf_el hb)
  simp only [Value.agg.injEq] at this
  exact u8s_inj this

theorem plainElem_bool_inv {H : Type} {P : Program} {e : TypeId} (he : P.underlying e = some .bool) {v : Value} {z : DataW H × List MemPlace} (h : plainElem P e v = some z) : ∃ x, v = .bool x ∧ z = (.lit (.bool x), []) := by
  unfold plainElem at h
  rw [he] at h
  cases v <;> simp at h
  exact ⟨_, rfl, h.symm⟩

/-- Block b of w is the set of the elements on the list. -/
def MapS (w : World) (b : Nat) (L : List (List Int)) : Prop :=
  ∃ D : DataW Unit, w.ownsMap Try.prog 78 (plainElem Try.prog 4) b L.length D ∧ ∀ l, E7 l → D.atKey (keyL l) (.lit (.bool false)) = .lit (.bool (decide (l ∈ L)))

theorem zeroBool (w : World) : (zeroValue 4).run Try.prog w = .ok (.bool false) w := by kernel_rfl

theorem MapS.new (w : World) : MapS (w.alloc (.map #[] 0)) w.heap.size [] :=
  ⟨.map [], World.ownsMap_made w _ _ _, fun l _ => by simp; rfl⟩
theorem MapS.lt {w : World} {b : Nat} {L : List (List Int)} (h : MapS w b L) : b < w.heap.size := let ⟨_, h, _⟩ := h; h.lt
theorem MapS.kept {w w' : World} {b : Nat} {L : List (List Int)} {row : Option Nat} (h : MapS w b L) (hg : w.grownBy w' row) (hne : some b ≠ row) : MapS w' b L := by
  obtain ⟨D, h1, h2⟩ := h
  exact ⟨D, h1.kept hg hne, h2⟩
theorem MapS.below {w w' : World} {b : Nat} {L : List (List Int)} (h : MapS w b L) (hb : Below w.heap.size w w') : MapS w' b L := by
  obtain ⟨D, ⟨es, clock, h0, h1⟩, h2⟩ := h
  exact ⟨D, ⟨es, clock, (hb.block b (Array.getElem?_eq_some_iff.1 h0).1).trans h0, h1⟩, h2⟩
/-- the same block, unchanged, elsewhere -/
theorem MapS.same {w w' : World} {b : Nat} {L : List (List Int)} (h : MapS w b L) (hb : w'.heap[b]? = w.heap[b]?) : MapS w' b L := by
  obtain ⟨D, ⟨es, clock, h0, h1⟩, h2⟩ := h
  exact ⟨D, ⟨es, clock, hb.trans h0, h1⟩, h2⟩
theorem MapS.get {w : World} {b : Nat} {L : List (List Int)} (h : MapS w b L) {l : List Int} (hl : E7 l) : (Instr.lookup 73 (.map (some b)) (.agg (u8s l)) false).run Try.prog w = .ok (.bool (decide (l ∈ L))) w := by
  obtain ⟨D, h1, h2⟩ := h
  obtain ⟨v, ps, hrun, hv⟩ := h1.lookup keyedEl Try.underlying73 (zeroBool w) (plainElem_bool Try.underlying4 false) (keyOf_el hl)
  obtain ⟨x, rfl, hx⟩ := plainElem_bool_inv Try.underlying4 hv
  simp only [Prod.mk.injEq] at hx
  have := h2 l hl
  rw [hx.1] at this
  cases this
  exact hrun
theorem MapS.set {w : World} {b : Nat} {L : List (List Int)} (h : MapS w b L) {l : List Int} (hl : E7 l) (hn : L.length < maxLen) : ∃ w', (Instr.mapUpdate 73 (.map (some b)) (.agg (u8s l)) (.bool true)).run Try.prog w = .ok () w' ∧ MapS w' b (l :: L) ∧ w.grownBy w' (some b) := by
  obtain ⟨D, h1, h2⟩ := h
  obtain ⟨w', hrun, h3, h4⟩ := h1.update keyedEl Try.underlying73 hn (keyOf_el hl) (plainElem_bool Try.underlying4 true)
  refine ⟨w', hrun, ⟨_, h3, fun x hx => ?_⟩, h4⟩
  by_cases e : x = l
  · subst e
    rw [Maps.atKey_put_same h1.isMap (keyedEl.key (keyOf_el hl))]
    simp
  · rw [Maps.atKey_put_other (fun h => e (keyL_inj hx hl h)), h2 x hx]
    simp [e]

/-- the look-up, for the walk -/
theorem wpList_look_set {ops : Array Oper} {rest : List Oper} {o : Oper} {a : Act} {w : World} {Q : Exit → Act → World → Prop} (hg : o.guard = none) (m x : Operand) (hop : o.op = Op.lookup 73 m x false)
    (b : Nat) (L : List (List Int)) (hm : a.eval m = .map (some b)) (h : MapS w b L) (l : List Int) (hx : a.eval x = .agg (u8s l)) (hl : E7 l) (hK : wpList Try.prog ops Q rest (a.put o.dst (.bool (decide (l ∈ L)))) w) : wpList Try.prog ops Q (o :: rest) a w := by
  refine wpList_plain hg fun K' hK' => ?_
  unfold Oper.wp
  simp [execOp, hop, hm, hx, h.get hl, Result.andThen]
  exact hK' _ _ hK
/-- the store of true, for the walk -/
theorem wpList_put_set {ops : Array Oper} {rest : List Oper} {o : Oper} {a : Act} {w : World} {Q : Exit → Act → World → Prop} (hg : o.guard = none) (m x v : Operand) (hop : o.op = Op.mapUpdate 73 m x v)
    (b : Nat) (L : List (List Int)) (hm : a.eval m = .map (some b)) (h : MapS w b L) (hn : L.length < maxLen) (l : List Int) (hx : a.eval x = .agg (u8s l)) (hv : a.eval v = .bool true) (hl : E7 l)
    (hK : ∀ w', MapS w' b (l :: L) → w.grownBy w' (some b) → wpList Try.prog ops Q rest (a.put o.dst undef) w') : wpList Try.prog ops Q (o :: rest) a w := by
  refine wpList_plain hg fun K' hK' => ?_
  obtain ⟨w', hrun, h1, h2⟩ := h.set hl hn
  unfold Oper.wp
  simp [execOp, hop, hm, hx, hv, hrun, Result.andThen]
  exact hK' _ _ (hK w' h1 h2)
end Go.Proofs.Ytjnjhfificpbbaa
namespace Go.Proofs.Ytjnjhfificpbbaa
open Go Go.RowKit

/-- the cells of a row of elements -/
def rowsV (L : List (List Int)) : List Value := L.flatMap fun l => l.map (Value.int .u8)
/-- a row of the call's own, from block B on, that holds the elements L -/
def Oel (B : Nat) (w : World) (v : Value) (L : List (List Int)) : Prop := w.ownsRow B 78 7 v L.length (rowsV L)

theorem run_row_op {P : Program} {o : Oper} {a : Act} {w : World} (ty : TypeId) (x : Operand) (ho : o.op = .load ty x) (g : Nat) (hx : a.eval x = .pointer (some ⟨g, 0, none⟩)) (t : TypeId) (cs : Array Value) (fr : Nat × Nat) (d : TypeDesc)
    (hg : w.heap[g]? = some (.cells cs t fr)) (hu : P.underlying ty = some d) (hd : (match d with | .struct _ | .array _ _ => true | _ => false) = true) (hi : (P.info? ty).map (·.size) = some cs.size) : (execOp a.eval o).run P w = .ok (.value (.agg cs)) w := by
  unfold execOp
  simp only [ho, hx, Instr.loadAt, Instr.sureAddr, Sem.run_bind, Sem.run_pure, Result.andThen_ok, run_loadVar_row w g t ty cs fr d hg hu hd hi]
theorem run_look_op {o : Oper} {a : Act} {w : World} (m x : Operand) (hop : o.op = Op.lookup 73 m x false) (b : Nat) (L : List (List Int)) (hm : a.eval m = .map (some b)) (h : MapS w b L) (l : List Int) (hx : a.eval x = .agg (u8s l)) (hl : E7 l) :
    (execOp a.eval o).run Try.prog w = .ok (.value (.bool (decide (l ∈ L)))) w := by
  simp [execOp, hop, hm, hx, h.get hl, Result.andThen]

theorem infoEl : (Try.prog.info? 78).map (fun i => (i.zero, i.size, i.bytes)) = some (some (.agg #[.int .u8 0, .int .u8 0, .int .u8 0, .int .u8 0, .int .u8 0, .int .u8 0, .int .u8 0]), 7, 7) := by kernel_rfl
theorem fill_one {e : List Int} (he : e.length = 7) : Instr.fill (fun i => some (i * 7, 7)) ((Array.range (1 * 7)).map ((Value.agg #[.int .u8 0, .int .u8 0, .int .u8 0, .int .u8 0, .int .u8 0, .int .u8 0, .int .u8 0]).cells[· % (Value.agg #[.int .u8 0, .int .u8 0, .int .u8 0, .int .u8 0, .int .u8 0, .int .u8 0, .int .u8 0]).cells.size]!)) [(0, .agg (u8s e))] = some (u8s e) := by
  match e, he with
  | [x0, x1, x2, x3, x4, x5, x6], _ => show _ = _; kernel_rfl
/-- a slice of one element: a new block -/
theorem wp_build_el {o : Oper} {a : Act} {w : World} {K : Act → World → Prop} {Q : Exit → Act → World → Prop} (x : Operand) (ho : o.op = .buildSlice 72 1 #[(0, x)]) (e : List Int) (he : e.length = 7) (hx : a.eval x = .agg (u8s e))
    (h : K (a.put o.dst (.slice (some ⟨w.heap.size, 0, none⟩) 1 1)) (w.alloc (.cells (u8s e) 78))) : o.wp Try.prog a w K Q := by
  obtain ⟨i0, hi, hz0, hz1, hz2⟩ := info_parts infoEl
  refine wp_buildSlice 72 78 1 _ ho (u8s e) i0 _ Try.underlying72 hi hz0 (by rw [hz1]; decide) (by rw [hz1]; decide) ?_ h
  rw [hz1]
  have : (#[(0, x)].map fun (p : Nat × Operand) => (p.1, a.eval p.2)).toList = [(0, .agg (u8s e))] := by simp [hx]
  rw [this]
  exact fill_one he
theorem rowsV_snoc (L : List (List Int)) (e : List Int) : rowsV (L ++ [e]) = rowsV L ++ e.map (Value.int .u8) := by simp [rowsV]
/-- append of one element to a row of the call's own -/
theorem wp_append_el {o : Oper} {a : Act} {w : World} {K : Act → World → Prop} {Q : Exit → Act → World → Prop} (s x : Operand) (ho : o.op = .call { callee := .builtin .append, args := #[s, x], argTypes := #[72, 72] })
    (B : Nat) (v : Value) (L : List (List Int)) (hs : a.eval s = v) (hO : Oel B w v L) (g : Nat) (e : List Int) (he : e.length = 7) (hx : a.eval x = .slice (some ⟨g, 0, none⟩) 1 1) (hg : Blk w g 78 (u8s e))
    (hl : L.length ≤ 1000000) (hB : B ≤ w.heap.size)
    (h : ∀ v' w', Oel B w' v' (L ++ [e]) → w.grownBy w' v.ownBlock → (v'.ownBlock = v.ownBlock ∨ v'.ownBlock = some w.heap.size) → K (a.put o.dst v') w') : o.wp Try.prog a w K Q := by
  obtain ⟨i0, hi, hz0, hz1, hz2⟩ := info_parts infoEl
  obtain ⟨v', w', hr, h2, h3, h4, h5⟩ := run_append_own_at (P := Try.prog) w B 72 o.type 78 i0 _ 7 7 Try.underlying72 hi hz0 hz1 hz2 rfl (by decide) v L.length (rowsV L) hO ⟨g, 0, none⟩ 1 1 (e.map (Value.int .u8)) (by simp [he])
    (fun j u hu => by
      have : (⟨g, 0, none⟩ : Addr).add j = ⟨g, j, none⟩ := by unfold Addr.add; split <;> simp_all
      rw [this, hg.cell j]; simpa [u8s] using hu)
    (fun u hu => by obtain ⟨y, _, rfl⟩ := List.mem_map.1 hu; rfl) (by unfold maxLen; omega) (by omega) hB
  unfold Oper.wp execOp
  simp only [ho, resolve, invoke, builtin, Sem.run_bind, Sem.run_pure, Result.andThen_ok, List.map_toArray, List.map_cons, List.map_nil, hs, hx, hr]
  refine h v' w' ?_ h3 h5
  unfold Oel
  rw [rowsV_snoc]
  simpa using h2

/-- the list with an element added that it lacks -/
def addE (L : List (List Int)) (e : List Int) : List (List Int) := if e ∈ L then L else L ++ [e]
/-- Block m is the set of the elements on the list L. -/
def SetOf (w : World) (m : Nat) (L : List (List Int)) : Prop := ∃ M, MapS w m M ∧ M.length = L.length ∧ ∀ x, x ∈ M ↔ x ∈ L

/-- what a call of add leaves: only the struct, its set and its list turn -/
structure Added (B c m : Nat) (n : Int) (vg vl : Value) (L : List (List Int)) (w w' : World) (vl' : Value) : Prop where
  cells : Blk w' c 75 #[.int .i64 n, vg, vl', .map (some m)]
  set : SetOf w' m L
  row : Oel B w' vl' L
  at' : vl'.ownBlock = vl.ownBlock ∨ ∃ g, vl'.ownBlock = some g ∧ w.heap.size ≤ g
  os : w'.os = w.os
  tape : w'.tape = w.tape
  output : w'.output = w.output
  size : w.heap.size ≤ w'.heap.size
  block : ∀ b, b < w.heap.size → b ≠ c → b ≠ m → some b ≠ vl.ownBlock → w'.heap[b]? = w.heap[b]?

set_option maxRecDepth 100000 in
set_option maxHeartbeats 1000000 in
theorem add_any (B c m p : Nat) (n : Int) (vg vl : Value) (L : List (List Int)) (e : List Int) (w : World) (he : E7 e) (hp : Blk w p 58 #[.pointer (some ⟨c, 0, none⟩)])
    (hc : Blk w c 75 #[.int .i64 n, vg, vl, .map (some m)]) (hs : SetOf w m L) (hO : Oel B w vl L) (hn : L.length ≤ 900000) (hB : B ≤ w.heap.size)
    (d1 : p ≠ c) (d2 : p ≠ m) (d3 : some p ≠ vl.ownBlock) (d4 : c ≠ m) (d5 : some c ≠ vl.ownBlock) (d6 : some m ≠ vl.ownBlock) :
    Calls Try.prog 92 #[.agg (u8s e), .pointer (some ⟨p, 0, none⟩)] w fun r w' => r = .returned (.tuple #[]) ∧ ∃ vl', Added B c m n vg vl (addE L e) w w' vl' := by
  obtain ⟨M, hm, hl, hM⟩ := hs
  have b1 := Blk.new w 78 (u8s e)
  have HE := Lib.hid b1
  have HP := Lib.hid (hp.alloc (.cells (u8s e) 78))
  have HC := Lib.hid (hc.alloc (.cells (u8s e) 78))
  have HB := Lib.hid ((Below.refl w.heap.size w).alloc (Nat.le_refl _) (.cells (u8s e) 78))
  have HM := Lib.hid (hm.below HB.out)
  have HO := Lib.hid (show Oel B _ vl L from World.ownsRow.alloc hO (.cells (u8s e) 78))
  have hlp := hp.lt
  have hlc := hc.lt
  have hlm := hm.lt
  have HLO := Lib.hid (World.ownsRow.lt hO)
  have HMM := Lib.hid hM
  have HLL := Lib.hid hl
  have HD := Lib.hid (And.intro d1 (And.intro d2 (And.intro d3 (And.intro d4 (And.intro d5 d6)))))
  have HBw := Lib.hid hB
  have HN := Lib.hid hn
  have hnM : M.length < maxLen := by unfold maxLen; omega
  clear b1 hp hc hm hO hM hl d1 d2 d3 d4 d5 d6 hB hn
  go_enter Try.func92, Try.ntmps92
  go_wp2
  generalize w.alloc (.cells (u8s e) 78) = W at *
  refine wp_region_held_then (S := fun w' => Below W.heap.size W w') 7 (by kernel_rfl) (by kernel_rfl) ?_
  have hS : Below W.heap.size W W.drew := below_drewN' (Below.refl _ _) 1
  simp only [List.take_succ_cons, List.take_zero, List.drop_succ_cons, List.drop_zero]
  refine held_take (i := 0) (v := .pointer (some ⟨c, 0, none⟩)) rfl rfl (by kernel_rfl) (by kernel_rfl) (by kernel_rfl) (fun w' h => ?_) hS ?_
  · have h1 := (HP.out.below h).cell 0
    go_simp
  refine held_take (i := 1) (v := .pointer (some ⟨c, 0, none⟩)) rfl rfl (by kernel_rfl) (by kernel_rfl) (by kernel_rfl) (fun w' h => by go_simp) hS ?_
  refine held_take (i := 2) (v := .pointer (some ⟨c, 3, none⟩)) rfl rfl (by kernel_rfl) (by kernel_rfl) (by kernel_rfl) (fun w' h => by go_simp) hS ?_
  refine held_take (i := 3) (v := .map (some m)) rfl rfl (by kernel_rfl) (by kernel_rfl) (by kernel_rfl) (fun w' h => ?_) hS ?_
  · have h1 := (HC.out.below h).cell 3
    go_simp
  refine held_take (i := 4) (v := .agg (u8s e)) rfl rfl (by kernel_rfl) (by kernel_rfl) (by kernel_rfl) (fun w' h => run_row_op 78 _ rfl w.heap.size rfl 78 (u8s e) (0, 0) _ (HE.out.below h) Try.underlying78 rfl (infoElem' he.1)) hS ?_
  refine held_take (i := 5) (v := .bool (decide (e ∈ M))) rfl rfl (by kernel_rfl) (by kernel_rfl) (by kernel_rfl) (fun w' h => run_look_op _ _ rfl m M rfl (HM.out.below h) e rfl he) hS ?_
  refine held_take (i := 6) (v := .bool (!decide (e ∈ M))) rfl rfl (by kernel_rfl) (by kernel_rfl) (by kernel_rfl) (fun w' h => by go_simp) hS ?_
  refine held_done (by kernel_rfl) ?_
  by_cases hin : e ∈ M
  · have hd : decide (e ∈ M) = true := by simp [hin]
    rw [hd]
    have HIN := Lib.hid hin
    have HS := Lib.hid hS
    clear hS hin hd
    go_simp
    go_wp2
    go_end0
    refine ⟨rfl, vl, ?_⟩
    have hb := HB.out.trans (HS.out.mono HB.out.size)
    rw [show addE L e = L by unfold addE; rw [if_pos ((HMM.out e).1 HIN.out)]]
    exact ⟨HC.out.below HS.out, ⟨M, HM.out.below HS.out, HLL.out, HMM.out⟩, World.ownsRow.kept HO.out (row := none) ⟨HS.out.os, HS.out.tape, HS.out.output, HS.out.size, fun k hk _ => HS.out.block k hk⟩ (by cases hq : vl.ownBlock <;> simp), .inl rfl, hb.os, hb.tape, hb.output, hb.size, fun b h _ _ _ => hb.block b h⟩
  · have hd : decide (e ∈ M) = false := by simp [hin]
    rw [hd]
    have HIN := Lib.hid hin
    clear hin hd
    go_simp
    go_wp2
    clear hS
    obtain ⟨W2, hW2⟩ : ∃ X, X = W.drew := ⟨_, rfl⟩
    rw [← hW2]
    refine wp_region_held_then (S := fun w' => Below W.heap.size W w') 5 (by kernel_rfl) (by kernel_rfl) ?_
    have hS : Below W.heap.size W W2.drew := by rw [hW2]; exact below_drewN' (below_drewN' (Below.refl _ _) 1) 1
    simp only [List.take_succ_cons, List.take_zero, List.drop_succ_cons, List.drop_zero]
    refine held_take (i := 0) (v := .pointer (some ⟨c, 0, none⟩)) rfl rfl (by kernel_rfl) (by kernel_rfl) (by kernel_rfl) (fun w' h => ?_) hS ?_
    · have h1 := (HP.out.below h).cell 0
      go_simp
    refine held_take (i := 1) (v := .pointer (some ⟨c, 0, none⟩)) rfl rfl (by kernel_rfl) (by kernel_rfl) (by kernel_rfl) (fun w' h => by go_simp) hS ?_
    refine held_take (i := 2) (v := .pointer (some ⟨c, 3, none⟩)) rfl rfl (by kernel_rfl) (by kernel_rfl) (by kernel_rfl) (fun w' h => by go_simp) hS ?_
    refine held_take (i := 3) (v := .map (some m)) rfl rfl (by kernel_rfl) (by kernel_rfl) (by kernel_rfl) (fun w' h => ?_) hS ?_
    · have h1 := (HC.out.below h).cell 3
      go_simp
    refine held_take (i := 4) (v := .agg (u8s e)) rfl rfl (by kernel_rfl) (by kernel_rfl) (by kernel_rfl) (fun w' h => run_row_op 78 _ rfl w.heap.size rfl 78 (u8s e) (0, 0) _ (HE.out.below h) Try.underlying78 rfl (infoElem' he.1)) hS ?_
    refine held_done (by kernel_rfl) ?_
    refine wpList_put_set rfl _ _ _ rfl m M rfl (HM.out.below hS) hnM e rfl rfl he ?_
    intro W3 hM3 hg3
    have HS2 := Lib.hid hS
    have HG3 := Lib.hid hg3
    have HM3 := Lib.hid hM3
    clear hS hg3 hM3 HM
    go_simp
    go_wp2
    clear hW2
    -- what stands in W3
    have hWs : w.heap.size < W.heap.size := HE.out.lt
    have h3 : ∀ b, b < W.heap.size → b ≠ m → W3.heap[b]? = W.heap[b]? := fun b hb hne => (HG3.out.block b (Nat.lt_of_lt_of_le hb HS2.out.size) (by simpa using hne)).trans (HS2.out.block b hb)
    have hsz3 : W.heap.size ≤ W3.heap.size := Nat.le_trans HS2.out.size HG3.out.size
    have P3 := Lib.hid (show Blk W3 p 58 #[.pointer (some ⟨c, 0, none⟩)] from (h3 p (by omega) HD.out.2.1).trans HP.out)
    have C3 := Lib.hid (show Blk W3 c 75 #[.int .i64 n, vg, vl, .map (some m)] from (h3 c (by omega) HD.out.2.2.2.1).trans HC.out)
    have E3 := Lib.hid (show Blk W3 w.heap.size 78 (u8s e) from (h3 w.heap.size hWs (by omega)).trans HE.out)
    have O3 := Lib.hid (show Oel B W3 vl L from World.ownsRow.kept (World.ownsRow.kept HO.out (row := none) ⟨HS2.out.os, HS2.out.tape, HS2.out.output, HS2.out.size, fun k hk _ => HS2.out.block k hk⟩ (by cases hq : vl.ownBlock <;> simp)) HG3.out (.inr (fun h => HD.out.2.2.2.2.2 h.symm)))
    obtain ⟨W4, hW4⟩ : ∃ X, X = W3.drew := ⟨_, rfl⟩
    refine wp_region_held_then (S := fun w' => ∀ b, b < W3.heap.size → some b ≠ vl.ownBlock → w'.heap[b]? = W3.heap[b]?) 8 (by kernel_rfl) (by kernel_rfl) ?_
    have hS : ∀ b, b < W3.heap.size → some b ≠ vl.ownBlock → W3.drew.heap[b]? = W3.heap[b]? := fun b _ _ => rfl
    have hcS : c < W3.heap.size := C3.out.lt
    have hpS : p < W3.heap.size := P3.out.lt
    have heS : w.heap.size < W3.heap.size := E3.out.lt
    have hen : some w.heap.size ≠ vl.ownBlock := fun h => by have := (HLO.out _ h.symm).2; omega
    clear hW4 HP HC HE HO
    simp only [List.take_succ_cons, List.take_zero, List.drop_succ_cons, List.drop_zero]
    refine held_take (i := 0) (v := .pointer (some ⟨c, 0, none⟩)) rfl rfl (by kernel_rfl) (by kernel_rfl) (by kernel_rfl) (fun w' h => ?_) hS ?_
    · have h1 : Blk w' p _ _ := (h p hpS HD.out.2.2.1).trans P3.out
      have h2 := h1.cell 0
      go_simp
    refine held_take (i := 1) (v := .pointer (some ⟨c, 0, none⟩)) rfl rfl (by kernel_rfl) (by kernel_rfl) (by kernel_rfl) (fun w' h => ?_) hS ?_
    · have h1 : Blk w' p _ _ := (h p hpS HD.out.2.2.1).trans P3.out
      have h2 := h1.cell 0
      go_simp
    refine held_take (i := 2) (v := .pointer (some ⟨c, 0, none⟩)) rfl rfl (by kernel_rfl) (by kernel_rfl) (by kernel_rfl) (fun w' h => by go_simp) hS ?_
    refine held_take (i := 3) (v := .pointer (some ⟨c, 2, none⟩)) rfl rfl (by kernel_rfl) (by kernel_rfl) (by kernel_rfl) (fun w' h => by go_simp) hS ?_
    refine held_take (i := 4) (v := vl) rfl rfl (by kernel_rfl) (by kernel_rfl) (by kernel_rfl) (fun w' h => ?_) hS ?_
    · have h1 : Blk w' c _ _ := (h c hcS HD.out.2.2.2.2.1).trans C3.out
      have h2 := h1.cell 2
      go_simp
    refine held_take (i := 5) (v := .agg (u8s e)) rfl rfl (by kernel_rfl) (by kernel_rfl) (by kernel_rfl) (fun w' h => run_row_op 78 _ rfl w.heap.size rfl 78 (u8s e) (0, 0) _ ((h w.heap.size heS hen).trans E3.out) Try.underlying78 rfl (infoElem' he.1)) hS ?_
    simp [Act.put]
    refine held_only (i := 6) rfl rfl (by kernel_rfl) (wp_build_el _ rfl e he.1 rfl ⟨fun b hb _ => Below.heap_alloc W3.drew _ b hb, ?_⟩)
    have hX := Blk.new W3.drew 78 (u8s e)
    have hOX : Oel B (W3.drew.alloc (.cells (u8s e) 78)) vl L := World.ownsRow.alloc (w := W3.drew) (World.ownsRow.drew O3.out) _
    have hBX : B ≤ (W3.drew.alloc (.cells (u8s e) 78)).heap.size := by have := HBw.out; rw [World.size_alloc]; show B ≤ W3.heap.size + 1; omega
    have hLX : L.length ≤ 1000000 := by have := HN.out; omega
    simp [Act.put]
    refine held_only (i := 7) rfl rfl (by kernel_rfl) (wp_append_el _ _ rfl B vl L rfl hOX W3.drew.heap.size e he.1 rfl hX hLX hBX ?_)
    intro vl' W5 hO5 hg5 hat5
    rw [World.size_alloc] at hat5
    have h5 : ∀ b, b < W3.heap.size → some b ≠ vl.ownBlock → W5.heap[b]? = W3.heap[b]? := fun b hb hne => (hg5.block b (by rw [World.size_alloc]; show b < W3.heap.size + 1; omega) hne).trans (Below.heap_alloc W3.drew _ b hb)
    refine ⟨h5, held_done (by kernel_rfl) ?_⟩
    obtain ⟨g5, cap5, rfl⟩ : ∃ g cap, vl' = .slice (some ⟨g, 0, none⟩) (L ++ [e]).length cap := by
      rcases hO5.2 with ⟨_, h⟩ | ⟨g, cap, cur, h, _⟩
      · simp at h
      · exact ⟨g, cap, h⟩
    have C5 := Lib.hid (show Blk W5 c 75 #[.int .i64 n, vg, vl, .map (some m)] from (h5 c hcS HD.out.2.2.2.2.1).trans C3.out)
    have hcur := C5.out.cell 2
    have hfr := C5.out.free 2
    have H5 := Lib.hid h5
    have HG5 := Lib.hid hg5
    have HA5 := Lib.hid hat5
    have HO5 := Lib.hid hO5
    clear hS hen h5 hg5 hat5 hO5 hX
    go_simp
    go_wp2
    go_end0
    have e1 : (L ++ [e]).length = L.length + 1 := by simp
    have hA := HA5.out
    have hO6 := HO5.out
    rw [e1] at hA hO6
    obtain ⟨v, hv⟩ : ∃ v, v = Value.slice (some ⟨g5, 0, none⟩) (L.length + 1) cap5 := ⟨_, rfl⟩
    rw [← hv] at hA hO6 ⊢
    have hbs : Below 0 W5 (W5.setCell ⟨c, 2, none⟩ v) := (Below.refl 0 W5).setCell (Nat.zero_le _) _
    have hoth : ∀ b, b ≠ c → (W5.setCell ⟨c, 2, none⟩ v).heap[b]? = W5.heap[b]? := fun b hne => heap_setCell_other W5 ⟨c, 2, none⟩ b v hne
    have hnc : v.ownBlock ≠ some c := by
      intro h
      rcases hA with h1 | h1
      · rw [h1] at h; exact HD.out.2.2.2.2.1 h.symm
      · rw [h1] at h
        have := Option.some.inj h
        have e2 : W3.drew.heap.size = W3.heap.size := rfl
        omega
    have z1 := HB.out.size
    have z5 := HG5.out.size
    rw [World.size_alloc] at z5
    have z5' : W3.heap.size + 1 ≤ W5.heap.size := z5
    have z6 := hbs.size
    refine ⟨rfl, v, ?_⟩
    rw [show addE L e = L ++ [e] by unfold addE; rw [if_neg (fun h => HIN.out ((HMM.out e).2 h))]]
    refine ⟨?_, ⟨e :: M, HM3.out.same ((hoth m HD.out.2.2.2.1.symm).trans (H5.out m (by omega) HD.out.2.2.2.2.2)), by simp [HLL.out], fun x => by simp [HMM.out x, or_comm]⟩, ?_, ?_, ?_, ?_, ?_, by omega, ?_⟩
    · have := C5.out.set 2 v
      simpa using this
    · exact World.ownsRow.kept hO6 (row := some c) ⟨hbs.os, hbs.tape, hbs.output, hbs.size, fun k _ hne => hoth k (fun h => hne (by rw [h]))⟩ (.inr hnc)
    · rcases hA with h1 | h1
      · exact .inl h1
      · exact .inr ⟨_, h1, by show w.heap.size ≤ W3.heap.size + 1; omega⟩
    · exact hbs.os.trans (HG5.out.os.trans (HG3.out.os.trans (HS2.out.os.trans HB.out.os)))
    · exact hbs.tape.trans (HG5.out.tape.trans (HG3.out.tape.trans (HS2.out.tape.trans HB.out.tape)))
    · exact hbs.output.trans (HG5.out.output.trans (HG3.out.output.trans (HS2.out.output.trans HB.out.output)))
    · exact fun b hb hbc hbm hbv => (hoth b hbc).trans ((H5.out b (by omega) hbv).trans ((h3 b (by omega) hbm).trans (HB.out.block b hb)))
end Go.Proofs.Ytjnjhfificpbbaa
namespace Go.Proofs.Ytjnjhfificpbbaa
open Go Go.RowKit

theorem rowsV_get : ∀ (L : List (List Int)) (k j : Nat), (∀ x ∈ L, x.length = 7) → k < L.length → j < 7 → (rowsV L)[k * 7 + j]? = ((L.getD k []).map (Value.int .u8))[j]?
  | [], _, _, _, hk, _ => by cases hk
  | x :: L, 0, j, h, _, hj => by
    have hx := h x (by simp)
    simp only [rowsV, List.flatMap_cons, Nat.zero_mul, Nat.zero_add, List.getD_cons_zero]
    rw [List.getElem?_append_left (by rw [List.length_map, hx]; exact hj)]
  | x :: L, k + 1, j, h, hk, hj => by
    have hx := h x (by simp)
    have := rowsV_get L k j (fun y hy => h y (by simp [hy])) (by simpa using hk) hj
    simp only [rowsV, List.flatMap_cons, List.getD_cons_succ] at this ⊢
    rw [List.getElem?_append_right (by rw [List.length_map, hx]; omega), List.length_map, hx, show (k + 1) * 7 + j - 7 = k * 7 + j by omega]
    exact this

theorem Oel.range {B g cap : Nat} {w : World} {n : Nat} {L : List (List Int)} (h : Oel B w (.slice (some ⟨g, 0, none⟩) n cap) L) (hL : ∀ x ∈ L, x.length = 7) (k : Nat) (hk : k < L.length) : w.rangeAt g (k * 7) ((L.getD k []).map (Value.int .u8)) := by
  have hn : n = L.length := by
    rcases h.2 with ⟨e, _⟩ | ⟨g, cap, cur, e, _⟩
    · cases e
    · cases e; rfl
  subst hn
  intro j v hv
  have hx : (L.getD k []).length = 7 := hL _ (by rw [List.getD_eq_getElem?_getD, List.getElem?_eq_getElem hk]; exact List.getElem_mem hk)
  have hj : j < 7 := by
    have := (List.getElem?_eq_some_iff.1 hv).1
    rw [List.length_map, hx] at this; exact this
  rw [World.ownsRow.cellAt h (k * 7 + j) (by omega), rowsV_get L k j hL hk hj]
  exact hv
/-- a row of at least one element is a slice of its own block -/
theorem Oel.form {B : Nat} {w : World} {v : Value} {L : List (List Int)} (h : Oel B w v L) (hn : 0 < L.length) : ∃ g cap, v = .slice (some ⟨g, 0, none⟩) L.length cap := by
  rcases h.2 with ⟨_, h⟩ | ⟨g, cap, cur, h, _⟩
  · omega
  · exact ⟨g, cap, h⟩
theorem Oel.slice {B : Nat} {w : World} {v : Value} {L : List (List Int)} (h : Oel B w v L) : ∃ a cap, v = .slice a L.length cap := by
  rcases h.2 with ⟨h, h0⟩ | ⟨g, cap, cur, h, _⟩
  · exact ⟨none, 0, by rw [h, h0]⟩
  · exact ⟨_, cap, h⟩

structure Clo (B : Nat) (w : World) (c m : Nat) (n : Int) (vg vl : Value) (G L : List (List Int)) : Prop where
  cells : Blk w c 75 #[.int .i64 n, vg, vl, .map (some m)]
  set : SetOf w m L
  rg : Oel B w vg G
  rl : Oel B w vl L
  cm : c ≠ m
  cg : some c ≠ vg.ownBlock
  mg : some m ≠ vg.ownBlock
  cl : some c ≠ vl.ownBlock
  ml : some m ≠ vl.ownBlock
  gl : vg.ownBlock = none ∨ vg.ownBlock ≠ vl.ownBlock
  base : B ≤ w.heap.size

theorem SetOf.same {w w' : World} {m : Nat} {L : List (List Int)} (h : SetOf w m L) (hb : w'.heap[m]? = w.heap[m]?) : SetOf w' m L := by
  obtain ⟨M, h1, h2, h3⟩ := h
  exact ⟨M, h1.same hb, h2, h3⟩
theorem SetOf.lt {w : World} {m : Nat} {L : List (List Int)} (h : SetOf w m L) : m < w.heap.size := by
  obtain ⟨M, h1, _⟩ := h
  exact h1.lt
theorem Oel.turns {B : Nat} {w w' : World} {v : Value} {L : List (List Int)} {priv : Nat → Prop} (h : Oel B w v L) (t : Turns priv w w') (hv : ∀ b, v.ownBlock = some b → ¬ priv b) : Oel B w' v L := by
  obtain ⟨h1, h2⟩ := h
  refine ⟨h1, ?_⟩
  rcases h2 with h2 | ⟨g, cap, cur, rfl, h3, h4, h5⟩
  · exact .inl h2
  · exact .inr ⟨g, cap, cur, rfl, h3, (t.block g (Array.getElem?_eq_some_iff.1 h4).1 (hv g rfl)).trans h4, h5⟩
theorem Clo.turns {B : Nat} {w w' : World} {c m : Nat} {n : Int} {vg vl : Value} {G L : List (List Int)} {priv : Nat → Prop} (h : Clo B w c m n vg vl G L) (t : Turns priv w w') (h1 : ¬ priv c) (h2 : ¬ priv m) (h3 : ∀ b, vg.ownBlock = some b → ¬ priv b) (h4 : ∀ b, vl.ownBlock = some b → ¬ priv b) : Clo B w' c m n vg vl G L :=
  { h with
    cells := (t.block c h.cells.lt h1).trans h.cells
    set := h.set.same (t.block m h.set.lt h2)
    rg := h.rg.turns t h3
    rl := h.rl.turns t h4
    base := Nat.le_trans h.base t.size }
theorem Clo.below {B : Nat} {w w' : World} {c m : Nat} {n : Int} {vg vl : Value} {G L : List (List Int)} (h : Clo B w c m n vg vl G L) (t : Below w.heap.size w w') : Clo B w' c m n vg vl G L :=
  h.turns (Turns.of_below (priv := fun _ => False) t) id id (fun _ _ => id) (fun _ _ => id)
theorem Turns.step {priv priv' : Nat → Prop} {a b d : World} (h : Turns priv a b) (k : Turns priv' b d) (hp : ∀ x, x < a.heap.size → priv' x → priv x) : Turns priv a d :=
  ⟨k.os.trans h.os, k.tape.trans h.tape, k.output.trans h.output, Nat.le_trans h.size k.size, fun x hx hn => (k.block x (Nat.lt_of_lt_of_le hx h.size) (fun hq => hn (hp x hx hq))).trans (h.block x hx hn)⟩

/-- add, in the words of Clo -/
theorem add_clo {B c m p : Nat} {n : Int} {vg vl : Value} {G L : List (List Int)} {e : List Int} {w : World} (h : Clo B w c m n vg vl G L) (he : E7 e) (hp : Blk w p 58 #[.pointer (some ⟨c, 0, none⟩)]) (hn : L.length ≤ 900000)
    (d1 : p ≠ c) (d2 : p ≠ m) (d3 : some p ≠ vl.ownBlock) :
    Calls Try.prog 92 #[.agg (u8s e), .pointer (some ⟨p, 0, none⟩)] w fun r w' => r = .returned (.tuple #[]) ∧ ∃ vl', Clo B w' c m n vg vl' G (addE L e) ∧ Blk w' p 58 #[.pointer (some ⟨c, 0, none⟩)] ∧
      Turns (fun b => b = c ∨ b = m ∨ some b = vl.ownBlock) w w' ∧ (vl'.ownBlock = vl.ownBlock ∨ ∃ g, vl'.ownBlock = some g ∧ w.heap.size ≤ g) := by
  refine (add_any B c m p n vg vl L e w he hp h.cells h.set h.rl hn h.base d1 d2 d3 h.cm h.cl h.ml).mono ?_
  rintro r w' ⟨rfl, vl', A⟩
  have t : Turns (fun b => b = c ∨ b = m ∨ some b = vl.ownBlock) w w' := ⟨A.os, A.tape, A.output, A.size, fun b hb hn => A.block b hb (fun e => hn (.inl e)) (fun e => hn (.inr (.inl e))) (fun e => hn (.inr (.inr e)))⟩
  have hgb : ∀ b, vg.ownBlock = some b → b < w.heap.size := fun b hb => (World.ownsRow.lt h.rg b hb).2
  refine ⟨rfl, vl', ⟨A.cells, A.set, h.rg.turns t (fun b hb hq => ?_), A.row, h.cm, h.cg, h.mg, ?_, ?_, ?_, Nat.le_trans h.base A.size⟩, (t.block p hp.lt (fun hq => ?_)).trans hp, t, A.at'⟩
  · rcases hq with e | e | e
    · exact h.cg (by rw [hb, e])
    · exact h.mg (by rw [hb, e])
    · rcases h.gl with h1 | h1
      · rw [h1] at hb; cases hb
      · exact h1 (by rw [hb, e])
  · rcases A.at' with e | ⟨g, e, hg⟩
    · rw [e]; exact h.cl
    · rw [e]; intro hq; have := Option.some.inj hq; have := h.cells.lt; omega
  · rcases A.at' with e | ⟨g, e, hg⟩
    · rw [e]; exact h.ml
    · rw [e]; intro hq; have := Option.some.inj hq; have := h.set.lt; omega
  · rcases A.at' with e | ⟨g, e, hg⟩
    · rw [e]; exact h.gl
    · rw [e]
      cases hv : vg.ownBlock with
      | none => exact .inl rfl
      | some b => exact .inr (fun hq => by have := Option.some.inj hq; have := hgb b hv; omega)
  · rcases hq with e | e | e
    · exact d1 e
    · exact d2 e
    · exact d3 e

/-- the list L is the group that the elements G generate -/
structure Grp (G L : List (List Int)) : Prop where
  nd : L.Nodup
  ng : G.Nodup
  sub : ∀ g ∈ G, g ∈ L
  els : Els L
  one : idL 7 ∈ L
  cls : ∀ a ∈ L, ∀ g ∈ G, mulL a g ∈ L
  gen : ∀ a ∈ L, Gen G a
theorem Grp.gels {G L : List (List Int)} (h : Grp G L) : Els G := fun g hg => h.els g (h.sub g hg)
theorem Grp.len {G L : List (List Int)} (h : Grp G L) : L.length ≤ 823543 := els_len h.nd (fun a ha => (h.els a ha).e7)
theorem Grp.glen {G L : List (List Int)} (h : Grp G L) : G.length ≤ 823543 := els_len h.ng (fun a ha => (h.gels a ha).e7)

theorem addE_mem {L : List (List Int)} {x a : List Int} (h : a ∈ L) : a ∈ addE L x := by
  unfold addE; split
  · exact h
  · exact List.mem_append.2 (.inl h)
theorem addE_self (L : List (List Int)) (x : List Int) : x ∈ addE L x := by
  unfold addE; split
  · assumption
  · simp
theorem addE_len (L : List (List Int)) (x : List Int) : L.length ≤ (addE L x).length := by
  unfold addE; split
  · exact Nat.le_refl _
  · simp
theorem addE_getD {L : List (List Int)} (x : List Int) {i : Nat} (h : i < L.length) : (addE L x).getD i [] = L.getD i [] := by
  unfold addE; split
  · rfl
  · rw [List.getD_eq_getElem?_getD, List.getElem?_append_left h, ← List.getD_eq_getElem?_getD]
theorem getD_mem {L : List (List Int)} {i : Nat} (h : i < L.length) : L.getD i [] ∈ L := by
  rw [List.getD_eq_getElem?_getD, List.getElem?_eq_getElem h]; exact List.getElem_mem h
/-- the search has passed k elements of the list Lk -/
structure Bfs (G L Lk : List (List Int)) (k : Nat) : Prop where
  nd : Lk.Nodup
  els : Els Lk
  sup : ∀ a ∈ L, a ∈ Lk
  gen : ∀ a ∈ Lk, Gen G a
  done : ∀ i, i < k → ∀ g ∈ G, mulL (Lk.getD i []) g ∈ Lk
  le : k ≤ Lk.length
theorem Bfs.len {G L Lk : List (List Int)} {k : Nat} (h : Bfs G L Lk k) : Lk.length ≤ 823543 := els_len h.nd (fun a ha => (h.els a ha).e7)
theorem Bfs.add {G L Lk : List (List Int)} {k : Nat} {x : List Int} (h : Bfs G L Lk k) (hx : El x) (hg : Gen G x) : Bfs G L (addE Lk x) k := by
  refine ⟨?_, ?_, fun a ha => addE_mem (h.sup a ha), ?_, fun i hi g hg' => ?_, Nat.le_trans h.le (addE_len _ _)⟩
  · unfold addE; split
    · exact h.nd
    · rename_i hn
      exact List.nodup_append.2 ⟨h.nd, by simp, fun a ha b hb hab => by rw [List.mem_singleton.1 hb] at hab; rw [hab] at ha; exact hn ha⟩
  · unfold addE; split
    · exact h.els
    · exact Els.snoc hx h.els
  · intro a ha
    unfold addE at ha
    split at ha
    · exact h.gen a ha
    · rcases List.mem_append.1 ha with e | e
      · exact h.gen a e
      · rw [List.mem_singleton.1 e]; exact hg
  · rw [addE_getD x (Nat.lt_of_lt_of_le hi h.le)]
    exact addE_mem (h.done i hi g hg')
theorem Bfs.next {G L Lk : List (List Int)} {k : Nat} (h : Bfs G L Lk k) (hk : k < Lk.length) (hd : ∀ t, t < G.length → mulL (Lk.getD k []) (G.getD t []) ∈ Lk) : Bfs G L Lk (k + 1) := by
  refine ⟨h.nd, h.els, h.sup, h.gen, fun i hi g hg => ?_, hk⟩
  by_cases e : i = k
  · subst e
    obtain ⟨t, ht, e2⟩ := List.getElem_of_mem hg
    have := hd t ht
    rw [show G.getD t [] = g by rw [List.getD_eq_getElem?_getD, List.getElem?_eq_getElem ht, e2]; rfl] at this
    exact this
  · exact h.done i (by omega) g hg
theorem Bfs.start {G L : List (List Int)} {e : List Int} (h : Grp G L) (he : El e) : Bfs (G ++ [e]) L L 0 :=
  ⟨h.nd, h.els, fun _ => id, fun a ha => (h.gen a ha).more (Els.snoc he h.gels), fun i hi => by omega, Nat.zero_le _⟩
theorem Bfs.end {G L Lk : List (List Int)} {e : List Int} (h : Bfs (G ++ [e]) L Lk Lk.length) (g : Grp G L) (he : El e) (hn : e ∉ L) : Grp (G ++ [e]) Lk := by
  have hcl : ∀ a ∈ Lk, ∀ g ∈ G ++ [e], mulL a g ∈ Lk := fun a ha x hx => by
    obtain ⟨i, hi, e2⟩ := List.getElem_of_mem ha
    have := h.done i hi x hx
    rw [show Lk.getD i [] = a by rw [List.getD_eq_getElem?_getD, List.getElem?_eq_getElem hi, e2]; rfl] at this
    exact this
  refine ⟨h.nd, ?_, fun x hx => ?_, h.els, h.sup _ g.one, hcl, h.gen⟩
  · exact List.nodup_append.2 ⟨g.ng, by simp, fun a ha b hb hab => by rw [List.mem_singleton.1 hb] at hab; rw [hab] at ha; exact hn (g.sub _ ha)⟩
  · rcases List.mem_append.1 hx with e1 | e1
    · exact h.sup _ (g.sub _ e1)
    · have := hcl _ (h.sup _ g.one) x hx
      rwa [(show El x by rw [List.mem_singleton.1 e1]; exact he).one_mul] at this

/-- what extend leaves -/
def ExtPost (B c m : Nat) (n : Int) (vg vl : Value) (G L : List (List Int)) (e : List Int) (w w' : World) : Prop :=
  ∃ vg' vl' G' L', Clo B w' c m n vg' vl' G' L' ∧ Grp G' L' ∧ G' = (if e ∈ L then G else G ++ [e]) ∧ (e ∈ L → L' = L) ∧ Turns (fun b => b = c ∨ b = m ∨ some b = vg.ownBlock ∨ some b = vl.ownBlock) w w' ∧
    (vg'.ownBlock = vg.ownBlock ∨ ∃ g, vg'.ownBlock = some g ∧ w.heap.size ≤ g) ∧ (vl'.ownBlock = vl.ownBlock ∨ ∃ g, vl'.ownBlock = some g ∧ w.heap.size ≤ g)

set_option maxRecDepth 100000 in
set_option maxHeartbeats 2000000 in
theorem extend_any {B c m : Nat} {n : Int} {vg vl : Value} {G L : List (List Int)} {e : List Int} {w : World} (h : Clo B w c m n vg vl G L) (g : Grp G L) (he : El e) :
    Calls Try.prog 77 #[.pointer (some ⟨c, 0, none⟩), .agg (u8s e)] w fun r w' => r = .returned (.tuple #[]) ∧ ExtPost B c m n vg vl G L e w w' := by
  have he7 := he.e7
  have b1 := Blk.new w 58 #[.pointer (some ⟨c, 0, none⟩)]
  have b2 := Blk.new (w.alloc (.cells #[.pointer (some ⟨c, 0, none⟩)] 58)) 78 (u8s e)
  rw [World.size_alloc] at b2
  have HB := Lib.hid (((Below.refl w.heap.size w).alloc (Nat.le_refl _) (.cells #[.pointer (some ⟨c, 0, none⟩)] 58)).alloc (by simp) (.cells (u8s e) 78))
  have HP := Lib.hid (b1.alloc (.cells (u8s e) 78))
  have HE := Lib.hid b2
  have HH := Lib.hid h
  have HG := Lib.hid g
  have HCl := Lib.hid (h.below HB.out)
  obtain ⟨M, hM1, hM2, hM3⟩ := HCl.out.set
  have HM := Lib.hid hM1
  have HMM := Lib.hid hM3
  clear b1 b2 h g hM1 hM2 hM3
  go_enter Try.func77, Try.ntmps77
  go_wp2
  generalize (w.alloc (.cells #[.pointer (some ⟨c, 0, none⟩)] 58)).alloc (.cells (u8s e) 78) = W at *
  refine wp_region_held_then (S := fun w' => Below W.heap.size W w') 6 (by kernel_rfl) (by kernel_rfl) ?_
  have hS : Below W.heap.size W W.drew := below_drewN' (Below.refl _ _) 1
  simp only [List.take_succ_cons, List.take_zero, List.drop_succ_cons, List.drop_zero]
  refine held_take (i := 0) (v := .pointer (some ⟨c, 0, none⟩)) rfl rfl (by kernel_rfl) (by kernel_rfl) (by kernel_rfl) (fun w' h => ?_) hS ?_
  · have h1 := (HP.out.below h).cell 0
    go_simp
  refine held_take (i := 1) (v := .pointer (some ⟨c, 0, none⟩)) rfl rfl (by kernel_rfl) (by kernel_rfl) (by kernel_rfl) (fun w' h => by go_simp) hS ?_
  refine held_take (i := 2) (v := .pointer (some ⟨c, 3, none⟩)) rfl rfl (by kernel_rfl) (by kernel_rfl) (by kernel_rfl) (fun w' h => by go_simp) hS ?_
  refine held_take (i := 3) (v := .map (some m)) rfl rfl (by kernel_rfl) (by kernel_rfl) (by kernel_rfl) (fun w' h => ?_) hS ?_
  · have h1 := (HCl.out.cells.below h).cell 3
    go_simp
  refine held_take (i := 4) (v := .agg (u8s e)) rfl rfl (by kernel_rfl) (by kernel_rfl) (by kernel_rfl) (fun w' h => run_row_op 78 _ rfl (w.heap.size + 1) rfl 78 (u8s e) (0, 0) _ (HE.out.below h) Try.underlying78 rfl (infoElem' he7.1)) hS ?_
  refine held_take (i := 5) (v := .bool (decide (e ∈ M))) rfl rfl (by kernel_rfl) (by kernel_rfl) (by kernel_rfl) (fun w' h => run_look_op _ _ rfl m M rfl (HM.out.below h) e rfl he7) hS ?_
  refine held_done (by kernel_rfl) ?_
  by_cases hin : e ∈ M
  · have hd : decide (e ∈ M) = true := by simp [hin]
    rw [hd]
    have HIN := Lib.hid hin
    have HS := Lib.hid hS
    clear hS hin hd
    go_simp
    go_wp2
    refine bodyPost_ret (results_none rfl _ _ _) rfl ?_
    have hb := HB.out.trans (HS.out.mono HB.out.size)
    have hL : e ∈ L := (HMM.out e).1 HIN.out
    exact ⟨rfl, vg, vl, G, L, HH.out.below hb, HG.out, by rw [if_pos hL], fun _ => rfl, Turns.of_below hb, .inl rfl, .inl rfl⟩
  · have hd : decide (e ∈ M) = false := by simp [hin]
    rw [hd]
    have HIN := Lib.hid (show e ∉ L from fun h => hin ((HMM.out e).2 h))
    clear hin hd HM HMM
    go_simp
    go_wp2
    obtain ⟨W3, hW3⟩ : ∃ X, X = W.drew := ⟨_, rfl⟩
    rw [← hW3]
    have HB3 := Lib.hid (show Below w.heap.size w W3 by rw [hW3]; exact HB.out.trans (hS.mono HB.out.size))
    have hS3 : Below W.heap.size W W3 := by rw [hW3]; exact hS
    have P3 := Lib.hid (HP.out.below hS3)
    have E3 := Lib.hid (HE.out.below hS3)
    have Cl3 := Lib.hid (HCl.out.below hS3)
    clear hS hS3 hW3 HP HE HCl HB
    have hcS : c < W3.heap.size := Cl3.out.cells.lt
    have hpS : w.heap.size < W3.heap.size := P3.out.lt
    have heS : w.heap.size + 1 < W3.heap.size := E3.out.lt
    have hgo : ∀ b, vg.ownBlock = some b → b < w.heap.size := fun b hb => (World.ownsRow.lt HH.out.rg b hb).2
    have hpn : some w.heap.size ≠ vg.ownBlock := fun h => by have := hgo _ h.symm; omega
    have hen : some (w.heap.size + 1) ≠ vg.ownBlock := fun h => by have := hgo _ h.symm; omega
    refine wp_region_held_then (S := fun w' => ∀ b, b < W3.heap.size → some b ≠ vg.ownBlock → w'.heap[b]? = W3.heap[b]?) 8 (by kernel_rfl) (by kernel_rfl) ?_
    have hS : ∀ b, b < W3.heap.size → some b ≠ vg.ownBlock → W3.drew.heap[b]? = W3.heap[b]? := fun b _ _ => rfl
    simp only [List.take_succ_cons, List.take_zero, List.drop_succ_cons, List.drop_zero]
    refine held_take (i := 0) (v := .pointer (some ⟨c, 0, none⟩)) rfl rfl (by kernel_rfl) (by kernel_rfl) (by kernel_rfl) (fun w' h => ?_) hS ?_
    · have h1 : Blk w' w.heap.size _ _ := (h w.heap.size hpS hpn).trans P3.out
      have h2 := h1.cell 0
      go_simp
    refine held_take (i := 1) (v := .pointer (some ⟨c, 0, none⟩)) rfl rfl (by kernel_rfl) (by kernel_rfl) (by kernel_rfl) (fun w' h => ?_) hS ?_
    · have h1 : Blk w' w.heap.size _ _ := (h w.heap.size hpS hpn).trans P3.out
      have h2 := h1.cell 0
      go_simp
    refine held_take (i := 2) (v := .pointer (some ⟨c, 0, none⟩)) rfl rfl (by kernel_rfl) (by kernel_rfl) (by kernel_rfl) (fun w' h => by go_simp) hS ?_
    refine held_take (i := 3) (v := .pointer (some ⟨c, 1, none⟩)) rfl rfl (by kernel_rfl) (by kernel_rfl) (by kernel_rfl) (fun w' h => by go_simp) hS ?_
    refine held_take (i := 4) (v := vg) rfl rfl (by kernel_rfl) (by kernel_rfl) (by kernel_rfl) (fun w' h => ?_) hS ?_
    · have h1 : Blk w' c _ _ := (h c hcS Cl3.out.cg).trans Cl3.out.cells
      have h2 := h1.cell 1
      go_simp
    refine held_take (i := 5) (v := .agg (u8s e)) rfl rfl (by kernel_rfl) (by kernel_rfl) (by kernel_rfl) (fun w' h => run_row_op 78 _ rfl (w.heap.size + 1) rfl 78 (u8s e) (0, 0) _ ((h (w.heap.size + 1) heS hen).trans E3.out) Try.underlying78 rfl (infoElem' he7.1)) hS ?_
    simp [Act.put]
    refine held_only (i := 6) rfl rfl (by kernel_rfl) (wp_build_el _ rfl e he7.1 rfl ⟨fun b hb _ => Below.heap_alloc W3.drew _ b hb, ?_⟩)
    have hX := Blk.new W3.drew 78 (u8s e)
    have hOX : Oel B (W3.drew.alloc (.cells (u8s e) 78)) vg G := World.ownsRow.alloc (w := W3.drew) (World.ownsRow.drew Cl3.out.rg) _
    have hBX : B ≤ (W3.drew.alloc (.cells (u8s e) 78)).heap.size := by have := Cl3.out.base; rw [World.size_alloc]; show B ≤ W3.heap.size + 1; omega
    have hLX : G.length ≤ 1000000 := by have := HG.out.glen; omega
    simp [Act.put]
    refine held_only (i := 7) rfl rfl (by kernel_rfl) (wp_append_el _ _ rfl B vg G rfl hOX W3.drew.heap.size e he7.1 rfl hX hLX hBX ?_)
    intro vg' W5 hO5 hg5 hat5
    rw [World.size_alloc] at hat5
    have h5 : ∀ b, b < W3.heap.size → some b ≠ vg.ownBlock → W5.heap[b]? = W3.heap[b]? := fun b hb hne => (hg5.block b (by rw [World.size_alloc]; show b < W3.heap.size + 1; omega) hne).trans (Below.heap_alloc W3.drew _ b hb)
    refine ⟨h5, held_done (by kernel_rfl) ?_⟩
    obtain ⟨g5, cap5, rfl⟩ := hO5.form (by simp)
    have C5 := Lib.hid (show Blk W5 c 75 #[.int .i64 n, vg, vl, .map (some m)] from (h5 c hcS Cl3.out.cg).trans Cl3.out.cells)
    have hcur := C5.out.cell 1
    have hfr := C5.out.free 1
    have H5 := Lib.hid h5
    have HG5 := Lib.hid hg5
    have HA5 := Lib.hid hat5
    have HO5 := Lib.hid hO5
    clear hS hen hpn h5 hg5 hat5 hO5 hX hOX hBX hLX
    go_simp
    go_wp2
    have e1 : (G ++ [e]).length = G.length + 1 := by simp
    have hA := HA5.out
    have hO6 := HO5.out
    rw [e1] at hA hO6
    obtain ⟨v, hv⟩ : ∃ v, v = Value.slice (some ⟨g5, 0, none⟩) (G.length + 1) cap5 := ⟨_, rfl⟩
    rw [← hv] at hA
    have hO7 : Oel B W5 v (G ++ [e]) := by rw [hv]; exact hO6
    have hbs : Below 0 W5 (W5.setCell ⟨c, 1, none⟩ v) := (Below.refl 0 W5).setCell (Nat.zero_le _) _
    have hoth : ∀ b, b ≠ c → (W5.setCell ⟨c, 1, none⟩ v).heap[b]? = W5.heap[b]? := fun b hne => heap_setCell_other W5 ⟨c, 1, none⟩ b v hne
    have hA' : v.ownBlock = vg.ownBlock ∨ ∃ g, v.ownBlock = some g ∧ W3.heap.size ≤ g := hA.imp id (fun h => ⟨_, h, Nat.le_succ _⟩)
    have z5 := HG5.out.size
    rw [World.size_alloc] at z5
    have z5' : W3.heap.size + 1 ≤ W5.heap.size := z5
    have z6 := hbs.size
    have hml := HH.out.set.lt
    have hcl := HH.out.cells.lt
    have hlo : ∀ b, vl.ownBlock = some b → b < w.heap.size := fun b hb => (World.ownsRow.lt HH.out.rl b hb).2
    have hne : ∀ b, b < W3.heap.size → some b ≠ vg.ownBlock → v.ownBlock ≠ some b := fun b hb hn h => by
      rcases hA' with e | ⟨g, e, hg⟩
      · exact hn (by rw [← e, h])
      · rw [e] at h; have := Option.some.inj h; omega
    have hT : Turns (fun b => b = c ∨ some b = vg.ownBlock) W3 (W5.setCell ⟨c, 1, none⟩ v) := ⟨hbs.os.trans HG5.out.os, hbs.tape.trans HG5.out.tape, hbs.output.trans HG5.out.output, by omega, fun b hb hn => (hoth b (fun e => hn (.inl e))).trans (H5.out b hb (fun e => hn (.inr e)))⟩
    have hcl6 : Clo B (W5.setCell ⟨c, 1, none⟩ v) c m n v vl (G ++ [e]) L := by
      refine ⟨?_, Cl3.out.set.same ((hoth m HH.out.cm.symm).trans (H5.out m (by omega) HH.out.mg)), hO7.turns (priv := fun b => b = c) ⟨hbs.os, hbs.tape, hbs.output, hbs.size, fun b _ hn => hoth b hn⟩ (fun b hb e => hne c (by omega) HH.out.cg (by rw [hb, e])), Cl3.out.rl.turns hT (fun b hb hq => ?_), HH.out.cm, ?_, ?_, HH.out.cl, HH.out.ml, ?_, by have := Cl3.out.base; omega⟩
      · have := C5.out.set 1 v
        simpa using this
      · rcases hq with e | e
        · exact HH.out.cl (by rw [hb, e])
        · rcases HH.out.gl with h1 | h1
          · rw [h1] at e; cases e
          · exact h1 (by rw [hb, e])
      · exact fun h => hne c (by omega) HH.out.cg h.symm
      · exact fun h => hne m (by omega) HH.out.mg h.symm
      · rcases hA' with e | ⟨g, e, hg⟩
        · rw [e]; exact HH.out.gl
        · exact .inr (fun h => by rw [e] at h; have := hlo g h.symm; omega)
    have hP6 : Blk (W5.setCell ⟨c, 1, none⟩ v) w.heap.size 58 #[.pointer (some ⟨c, 0, none⟩)] := P3.out.turns hT (fun hq => by
      rcases hq with e | e
      · omega
      · have := hgo _ e.symm; omega)
    have hT6 : Turns (fun b => b = c ∨ b = m ∨ some b = vg.ownBlock ∨ some b = vl.ownBlock) w (W5.setCell ⟨c, 1, none⟩ v) := (Turns.of_below (priv := fun b => b = c ∨ b = m ∨ some b = vg.ownBlock ∨ some b = vl.ownBlock) HB3.out).step hT (fun x _ hx => hx.elim .inl (fun h => .inr (.inr (.inl h))))
    have hVO : v.ownBlock = vg.ownBlock ∨ ∃ g, v.ownBlock = some g ∧ w.heap.size + 2 ≤ g := hA'.imp id (fun ⟨g, e, hg⟩ => ⟨g, e, by omega⟩)
    have hz6 : w.heap.size + 2 ≤ (W5.setCell ⟨c, 1, none⟩ v).heap.size := by omega
    rw [← hv]
    generalize W5.setCell ⟨c, 1, none⟩ v = W6 at *
    have HV := Lib.hid hv
    have HVO := Lib.hid hVO
    have HC6 := Lib.hid hcl6
    have HP6 := Lib.hid hP6
    have HT6 := Lib.hid hT6
    have HZ6 := Lib.hid hz6
    have HBF := Lib.hid (Bfs.start HG.out he)
    have HCM := Lib.hid (And.intro hcl hml)
    have HLO := Lib.hid hlo
    clear hv hVO hcl6 hP6 hT6 hz6 hcl hml hlo hT hbs hoth hne hA hA' hO6 hO7 e1 z5 z5' z6 H5 HG5 HA5 HO5 C5 hcur hfr hcS hpS heS hgo P3 E3 Cl3 HB3 he7
    go_loopw [5] (fun i wr => ∃ (k : Nat) (vk : Value) (Lk : List (List Int)), i = .int .i64 k ∧ Hid (Clo B wr c m n v vk (G ++ [e]) Lk) ∧ Hid (Blk wr w.heap.size 58 #[.pointer (some ⟨c, 0, none⟩)]) ∧ Hid (Turns (fun b => b = c ∨ b = m ∨ some b = vg.ownBlock ∨ some b = vl.ownBlock) w wr) ∧ Hid (vk.ownBlock = vl.ownBlock ∨ ∃ g, vk.ownBlock = some g ∧ w.heap.size + 2 ≤ g) ∧ Hid (Bfs (G ++ [e]) L Lk k) ∧ Hid (w.heap.size + 2 ≤ wr.heap.size)) (fun i _ => 900000 - (intOf i).toNat)
    case atStart => exact ⟨0, vl, L, rfl, HC6, HP6, HT6, Lib.hid (.inl rfl), HBF, HZ6⟩
    case round =>
      clear HC6 HP6 HT6 HZ6 HBF
      obtain ⟨k, vk, Lk, rfl, CL, P, T, O, BF, ZZ⟩ := hrel
      obtain ⟨wo, hwo⟩ : ∃ W, W = wr := ⟨_, rfl⟩
      subst hwo
      have hp0 := P.out.cell 0
      obtain ⟨ak, capk, hvk⟩ := CL.out.rl.slice
      have hc2 := CL.out.cells.cell 2
      have hc1 := CL.out.cells.cell 1
      have hle := BF.out.le
      have hlen := BF.out.len
      by_cases hlt : k < Lk.length
      · obtain ⟨gk, capk', hvk'⟩ := CL.out.rl.form (by omega)
        have hrl := CL.out.rl
        rw [hvk'] at hc2 hrl
        have hr := hrl.range (fun x hx => (BF.out.els x hx).2) k hlt
        obtain ⟨a, ha⟩ : ∃ a, a = Lk.getD k [] := ⟨_, rfl⟩
        have hEa : El a := by rw [ha]; exact BF.out.els _ (getD_mem hlt)
        rw [← ha] at hr
        have HR := Lib.hid hr
        have HA := Lib.hid ha
        have hi7 : (Try.prog.info? 78).map (·.size) = some (a.map (Value.int .u8)).length := by rw [List.length_map, hEa.2]; exact infoElem
        rw [HV.out] at hc1
        have HQ0 := Lib.hid (Blk.new wo 78 #[.int .u8 0, .int .u8 0, .int .u8 0, .int .u8 0, .int .u8 0, .int .u8 0, .int .u8 0])
        have HQ := Lib.hid (Blk.setRow HQ0.out (u8s a))
        have HBQ := Lib.hid (below_row ((Below.refl wo.heap.size wo).alloc (Nat.le_refl _) (.cells #[.int .u8 0, .int .u8 0, .int .u8 0, .int .u8 0, .int .u8 0, .int .u8 0, .int .u8 0] 78)) wo.heap.size (u8s a) (Nat.le_refl _))
        have HVK := Lib.hid hvk'
        have hp1 := (P.out.below HBQ.out).cell 0
        have hc3 := (CL.out.cells.below HBQ.out).cell 1
        rw [HV.out] at hc3
        clear hr ha hvk hvk' hrl
        go_wp2_with (first | (refine wpList_load_mid rfl 78 _ rfl gk (k * 7) rfl (a.map (Value.int .u8)) _ HR.out Try.underlying78 rfl hi7 ?_) | (refine wpList_store_row rfl 78 _ _ rfl wo.heap.size (u8s a) rfl rfl 78 #[.int .u8 0, .int .u8 0, .int .u8 0, .int .u8 0, .int .u8 0, .int .u8 0, .int .u8 0] HQ0.out (infoElem' hEa.2) (by rw [size_u8s, hEa.2]; rfl) (u8s_one a) ?_))
        have CX := Lib.hid (CL.out.below HBQ.out)
        have PX := Lib.hid (P.out.below HBQ.out)
        have TX := Lib.hid (T.out.step (Turns.of_below (priv := fun _ => False) HBQ.out) (fun _ _ h => h.elim))
        have OX := Lib.hid (show (vk.ownBlock = vl.ownBlock ∨ ∃ g, vk.ownBlock = some g ∧ w.heap.size + 2 ≤ g) ∧ ¬ some wo.heap.size = vk.ownBlock from ⟨O.out, fun h => by have := (World.ownsRow.lt CL.out.rl _ h.symm).2; omega⟩)
        have ZX := Lib.hid ZZ.out
        have HK := Lib.hid (show k < Lk.length ∧ Lk.getD k [] = a ∧ ∀ t, t < 0 → mulL a ((G ++ [e]).getD t []) ∈ Lk from ⟨hlt, HA.out.symm, fun t ht => by omega⟩)
        have HLL := Lib.hid (And.intro hle hlen)
        have hgl := HG.out.glen
        clear hp0 hp1 hc1 hc2 hc3 hle hlen hlt CL P T O HR HA HQ0 HBQ HVK ZZ
        go_loopw [47] (fun i wr => ∃ (j : Nat) (vj : Value) (Lj : List (List Int)), i = .int .i64 j ∧ j ≤ G.length + 1 ∧ Hid (Clo B wr c m n v vj (G ++ [e]) Lj) ∧ Hid (Blk wr w.heap.size 58 #[.pointer (some ⟨c, 0, none⟩)]) ∧ Hid (Blk wr wo.heap.size 78 (u8s a)) ∧ Hid (Turns (fun b => b = c ∨ b = m ∨ some b = vg.ownBlock ∨ some b = vl.ownBlock) w wr) ∧ Hid ((vj.ownBlock = vl.ownBlock ∨ ∃ g, vj.ownBlock = some g ∧ w.heap.size + 2 ≤ g) ∧ ¬ some wo.heap.size = vj.ownBlock) ∧ Hid (Bfs (G ++ [e]) L Lj k) ∧ Hid (k < Lj.length ∧ Lj.getD k [] = a ∧ ∀ t, t < j → mulL a ((G ++ [e]).getD t []) ∈ Lj)) (fun i _ => G.length + 1 - (intOf i).toNat)
        case atStart => exact ⟨0, vk, Lk, rfl, by omega, CX, PX, HQ, TX, OX, BF, HK⟩
        case round =>
          clear CX PX HQ TX OX BF HK
          obtain ⟨j, vj, Lj, rfl, hj, CL, P, HQ, T, O, BF, HK⟩ := hrel
          by_cases hjl : j < G.length + 1
          · obtain ⟨b, hb⟩ : ∃ b, b = (G ++ [e]).getD j [] := ⟨_, rfl⟩
            have hjm : j < (G ++ [e]).length := by rw [List.length_append]; simpa using hjl
            have hGe : Els (G ++ [e]) := Els.snoc he HG.out.gels
            have hEb : El b := by rw [hb]; exact hGe _ (getD_mem hjm)
            have hrg := CL.out.rg
            rw [HV.out] at hrg
            have hr := hrg.range (fun x hx => (hGe x hx).2) j hjm
            rw [← hb] at hr
            have HR := Lib.hid hr
            have HBB := Lib.hid hb
            have HGE := Lib.hid hGe
            have HJM := Lib.hid hjm
            have hi8 : (Try.prog.info? 78).map (·.size) = some (b.map (Value.int .u8)).length := by rw [List.length_map, hEb.2]; exact infoElem
            have HR0 := Lib.hid (Blk.new wr 78 #[.int .u8 0, .int .u8 0, .int .u8 0, .int .u8 0, .int .u8 0, .int .u8 0, .int .u8 0])
            have HRX := Lib.hid (Blk.setRow HR0.out (u8s b))
            have HBX := Lib.hid (below_row ((Below.refl wr.heap.size wr).alloc (Nat.le_refl _) (.cells #[.int .u8 0, .int .u8 0, .int .u8 0, .int .u8 0, .int .u8 0, .int .u8 0, .int .u8 0] 78)) wr.heap.size (u8s b) (Nat.le_refl _))
            have HQX := Lib.hid (HQ.out.below HBX.out)
            clear hb hjm hGe hrg hr
            go_wp2_with (first | (refine wpList_load_mid rfl 78 _ rfl g5 (j * 7) rfl (b.map (Value.int .u8)) _ HR.out Try.underlying78 rfl hi8 ?_) | (refine wpList_store_row rfl 78 _ _ rfl wr.heap.size (u8s b) rfl rfl 78 #[.int .u8 0, .int .u8 0, .int .u8 0, .int .u8 0, .int .u8 0, .int .u8 0, .int .u8 0] HR0.out (infoElem' hEb.2) (by rw [size_u8s, hEb.2]; rfl) (u8s_one b) ?_) | (refine wpList_load_row rfl 78 _ rfl wo.heap.size rfl 78 (u8s a) (0, 0) _ HQX.out Try.underlying78 rfl (infoElem' hEa.2) ?_) | (refine wpList_load_row rfl 78 _ rfl wr.heap.size rfl 78 (u8s b) (0, 0) _ HRX.out Try.underlying78 rfl (infoElem' hEb.2) ?_) | (go_at_call 83; refine (times_any a b _ hEa.e7 hEb.e7).mono ?_; rintro r w1 ⟨rfl, hb1⟩; have HB1 := Lib.hid hb1; clear hb1))
            have hw1 : Below wr.heap.size wr w1 := HBX.out.trans (HB1.out.mono HBX.out.size)
            have hq1 := HQ.out.lt
            have hz1 := hw1.size
            have hzz := ZX.out
            have hEab := hEa.mul hEb
            have hGab : Gen (G ++ [e]) (mulL a b) := (BF.out.gen a (by rw [← HK.out.2.1]; exact getD_mem HK.out.1)).step (by rw [HBB.out]; exact getD_mem HJM.out)
            refine (add_clo (CL.out.below hw1) hEab.e7 (P.out.below hw1) (Nat.le_trans BF.out.len (by omega)) (fun h => by have := HCM.out.1; omega) (fun h => by have := HCM.out.2; omega) (fun h => by
              rcases O.out.1 with e1 | ⟨g, e1, hg⟩
              · rw [e1] at h; have := HLO.out _ h.symm; omega
              · rw [e1] at h; have := Option.some.inj h; omega)).mono ?_
            rintro r w2 ⟨rfl, vj', cl2, p2, t2, o2⟩
            have CL2 := Lib.hid cl2
            have P2 := Lib.hid p2
            have T2 := Lib.hid (show Turns (fun b => b = c ∨ b = m ∨ some b = vg.ownBlock ∨ some b = vl.ownBlock) w w2 from (T.out.step (Turns.of_below (priv := fun _ => False) hw1) (fun _ _ h => h.elim)).step t2 (fun x hx h => by
              rcases h with h | h | h
              · exact .inl h
              · exact .inr (.inl h)
              · rcases O.out.1 with e1 | ⟨g, e1, hg⟩
                · exact .inr (.inr (.inr (by rw [h, e1])))
                · rw [e1] at h; have := Option.some.inj h; omega))
            have Q2 := Lib.hid ((HQ.out.below hw1).turns t2 (fun h => by
              rcases h with h | h | h
              · have := HCM.out.1; omega
              · have := HCM.out.2; omega
              · exact O.out.2 h))
            have O2 := Lib.hid (show (vj'.ownBlock = vl.ownBlock ∨ ∃ g, vj'.ownBlock = some g ∧ w.heap.size + 2 ≤ g) ∧ ¬ some wo.heap.size = vj'.ownBlock from by
              rcases o2 with e1 | ⟨g, e1, hg⟩
              · rw [e1]; exact O.out
              · refine ⟨.inr ⟨g, e1, by omega⟩, fun h => ?_⟩
                rw [e1] at h; have := Option.some.inj h; omega)
            have B2 := Lib.hid (BF.out.add hEab hGab)
            have K2 := Lib.hid (show k < (addE Lj (mulL a b)).length ∧ (addE Lj (mulL a b)).getD k [] = a ∧ ∀ t, t < j + 1 → mulL a ((G ++ [e]).getD t []) ∈ addE Lj (mulL a b) from ⟨Nat.lt_of_lt_of_le HK.out.1 (addE_len _ _), by rw [addE_getD _ HK.out.1]; exact HK.out.2.1, fun t ht => by
              by_cases e1 : t = j
              · rw [e1, ← HBB.out]; exact addE_self _ _
              · exact addE_mem (HK.out.2.2 t (by omega))⟩)
            clear cl2 p2 t2 o2 hw1 hq1 hz1 hzz hEab hGab CL P HQ T O BF HK HR HBB HGE HJM HR0 HRX HBX HQX HB1 hi8 hEb
            go_wp2
            go_roundw
            case rel => exact ⟨j + 1, vj', _, by go_num, by omega, CL2, P2, Q2, T2, O2, B2, K2⟩
            case measure => simp [intOf]; omega
          · have hje : j = G.length + 1 := by omega
            have HN := Lib.hid (show Bfs (G ++ [e]) L Lj (k + 1) from BF.out.next HK.out.1 (fun t ht => by rw [HK.out.2.1]; exact HK.out.2.2 t (by rw [List.length_append] at ht; simp at ht; omega)))
            have hlk := HLL.out
            have hzw := HQ.out.lt
            have hzx := ZX.out
            have hjl' : G.length + 1 ≤ j := by omega
            clear hje BF HK HQ HLL ZX
            go_wp2
            refine ⟨⟨k + 1, vj, Lj, by simp, CL, P, T, Lib.hid O.out.1, HN, Lib.hid (by omega)⟩, ?_⟩
            simp [intOf]; omega
      · have hke : k = Lk.length := by omega
        have hlt' : Lk.length ≤ k := by omega
        have HN := Lib.hid (show Grp (G ++ [e]) Lk from Bfs.end (by rw [← hke]; exact BF.out) HG.out he HIN.out)
        have HVK := Lib.hid hvk
        rw [hvk] at hc2
        clear hke hvk hc1 hlt BF
        go_wp2
        go_end0
        refine ⟨rfl, v, vk, G ++ [e], Lk, CL.out, HN.out, by rw [if_neg HIN.out], fun h => absurd h HIN.out, T.out, ?_, ?_⟩
        · exact HVO.out.imp id (fun ⟨g, e1, hg⟩ => ⟨g, e1, by omega⟩)
        · exact O.out.imp id (fun ⟨g, e1, hg⟩ => ⟨g, e1, by omega⟩)
end Go.Proofs.Ytjnjhfificpbbaa
