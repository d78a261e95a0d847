/- Plain mathematics: products of commutators; a search in breadth finds a shortest product. Nothing here speaks of the program. -/
import Derived.Test.YtjnjhfificpbbaaLAG
namespace Go.Proofs.Ytjnjhfificpbbaa
open Go.RowKit

/-- the products of n elements of C -/
inductive Prd (C : List Int → Prop) : Nat → List Int → Prop where
  | zero : Prd C 0 (idL 7)
  | succ {n : Nat} {y c : List Int} (h : Prd C n y) (hc : C c) : Prd C (n + 1) (mulL y c)
/-- the least number of factors -/
def Lst (C : List Int → Prop) (n : Nat) (x : List Int) : Prop := Prd C n x ∧ ∀ m, Prd C m x → n ≤ m
theorem Prd.el {C : List Int → Prop} (hC : ∀ c, C c → El c) {n : Nat} {x : List Int} (h : Prd C n x) : El x := by
  induction h with
  | zero => exact El.one
  | succ _ hc ih => exact ih.mul (hC _ hc)
theorem Prd.more {C D : List Int → Prop} (h : ∀ c, C c → D c) {n : Nat} {x : List Int} (k : Prd C n x) : Prd D n x := by
  induction k with
  | zero => exact .zero
  | succ _ hc ih => exact .succ ih (h _ hc)
/-- factors that are the identity can be left out -/
theorem Prd.less {C D : List Int → Prop} (hD : ∀ c, D c → C c ∨ c = idL 7) (hC : ∀ c, C c → El c) {n : Nat} {x : List Int} (k : Prd D n x) : ∃ m, m ≤ n ∧ Prd C m x := by
  induction k with
  | zero => exact ⟨0, Nat.le_refl _, .zero⟩
  | succ _ hc ih =>
    obtain ⟨m, h1, h2⟩ := ih
    rcases hD _ hc with h | h
    · exact ⟨m + 1, by omega, .succ h2 h⟩
    · rw [h, (h2.el hC).mul_one]
      exact ⟨m, by omega, h2⟩
theorem lst_same {C D : List Int → Prop} (h1 : ∀ c, C c → D c) (h2 : ∀ c, D c → C c ∨ c = idL 7) (hC : ∀ c, C c → El c) {n : Nat} {x : List Int} (h : Lst C n x) : Lst D n x :=
  ⟨h.1.more h1, fun m hm => by
    obtain ⟨k, a, b⟩ := hm.less h2 hC
    exact Nat.le_trans (h.2 k b) a⟩
theorem Lst.uniq {C : List Int → Prop} {n m : Nat} {x : List Int} (h : Lst C n x) (k : Lst C m x) : n = m := Nat.le_antisymm (h.2 m k.1) (k.2 n h.1)
/-- the products are what the elements generate -/
theorem prd_gen {cs : List (List Int)} {x : List Int} : Gen cs x ↔ ∃ n, Prd (fun c => c ∈ cs) n x := by
  constructor
  · intro h
    induction h with
    | one => exact ⟨0, .zero⟩
    | step _ hm ih =>
      obtain ⟨n, hn⟩ := ih
      exact ⟨n + 1, .succ hn hm⟩
  · rintro ⟨n, h⟩
    induction h with
    | zero => exact .one
    | succ _ hc ih => exact .step ih hc

/-- the search: V has been reached, d is the number of factors by which, all from the first k elements of V and the first j factors of the next one has been tried; st holds how each was reached -/
structure Shs (cs : List (List Int)) (V : List (List Int)) (d : List Int → Nat) (k j : Nat) : Prop where
  nd : V.Nodup
  one : V.getD 0 [] = idL 7 ∧ 0 < V.length
  d1 : d (idL 7) = 0
  up : ∀ i, i < V.length → ∀ t, t ≤ i → d (V.getD t []) ≤ d (V.getD i [])
  prd : ∀ x ∈ V, Prd (fun c => c ∈ cs) (d x) x
  near : k < V.length → ∀ x ∈ V, d x ≤ d (V.getD k []) + 1
  done : ∀ i, i < k → ∀ c ∈ cs, mulL (V.getD i []) c ∈ V ∧ d (mulL (V.getD i []) c) ≤ d (V.getD i []) + 1
  now : ∀ i, i < j → mulL (V.getD k []) (cs.getD i []) ∈ V ∧ d (mulL (V.getD k []) (cs.getD i [])) ≤ d (V.getD k []) + 1
section
variable {cs V : List (List Int)} {d : List Int → Nat} {k j : Nat} {x : List Int}
theorem Shs.els (h : Shs cs V d k j) (hc : Els cs) : Els V := fun x hx => (h.prd x hx).el hc
theorem Shs.len (h : Shs cs V d k j) (hc : Els cs) : V.length ≤ 823543 := els_len h.nd fun a ha => (h.els hc a ha).e7
theorem Shs.start (cs : List (List Int)) : Shs cs [idL 7] (fun _ => 0) 0 0 :=
  ⟨by simp, ⟨rfl, by simp⟩, rfl, fun i _ t _ => Nat.le_refl _, fun x hx => by rw [List.mem_singleton.1 hx]; exact .zero, fun _ x _ => Nat.zero_le _, fun i hi => by omega, fun i hi => by omega⟩
theorem Shs.has (h : Shs cs V d k j) (hk : k < V.length) (hx : mulL (V.getD k []) (cs.getD j []) ∈ V) : Shs cs V d k (j + 1) :=
  ⟨h.nd, h.one, h.d1, h.up, h.prd, h.near, h.done, fun i hi => by
    by_cases e : i = j
    · rw [e]; exact ⟨hx, h.near hk _ hx⟩
    · exact h.now i (by omega)⟩
theorem gets_snoc {V : List (List Int)} (x : List Int) {i : Nat} (h : i < V.length) : (V ++ [x]).getD i [] = V.getD i [] := by
  rw [List.getD_eq_getElem?_getD, List.getElem?_append_left h, ← List.getD_eq_getElem?_getD]
theorem gets_last (V : List (List Int)) (x : List Int) : (V ++ [x]).getD V.length [] = x := by simp
/-- the number for a new element -/
def dNew (d : List Int → Nat) (x : List Int) (n : Nat) : List Int → Nat := fun y => if y = x then n else d y
theorem Shs.add (h : Shs cs V d k j) (hk : k < V.length) (hj : j < cs.length) (hx : x ∉ V) (e : x = mulL (V.getD k []) (cs.getD j [])) : Shs cs (V ++ [x]) (dNew d x (d (V.getD k []) + 1)) k (j + 1) := by
  have hd : ∀ y ∈ V, dNew d x (d (V.getD k []) + 1) y = d y := fun y hy => by
    unfold dNew
    rw [if_neg fun e => hx (by rw [← e]; exact hy)]
  have hx1 : dNew d x (d (V.getD k []) + 1) x = d (V.getD k []) + 1 := by unfold dNew; rw [if_pos rfl]
  have hm : ∀ i, i < V.length → V.getD i [] ∈ V := fun i hi => getD_mem hi
  refine ⟨?_, ⟨by rw [gets_snoc x h.one.2]; exact h.one.1, by simp⟩, ?_, fun i hi t ht => ?_, fun y hy => ?_, fun _ y hy => ?_, fun i hi c hc => ?_, fun i hi => ?_⟩
  · exact List.nodup_append.2 ⟨h.nd, by simp, fun a ha b hb hab => by rw [List.mem_singleton.1 hb] at hab; rw [hab] at ha; exact hx ha⟩
  · rw [hd _ (by have := hm 0 h.one.2; rwa [h.one.1] at this)]; exact h.d1
  · rw [List.length_append, List.length_singleton] at hi
    by_cases e1 : i < V.length
    · rw [gets_snoc x e1, gets_snoc x (by omega), hd _ (hm i e1), hd _ (hm t (by omega))]
      exact h.up i e1 t ht
    · have e2 : i = V.length := by omega
      rw [e2, gets_last, hx1]
      by_cases e3 : t < V.length
      · rw [gets_snoc x e3, hd _ (hm t e3)]
        exact h.near hk _ (hm t e3)
      · have e4 : t = V.length := by omega
        rw [e4, gets_last, hx1]
        exact Nat.le_refl _
  · rcases List.mem_append.1 hy with q | q
    · rw [hd y q]; exact h.prd y q
    · have q := List.mem_singleton.1 q
      subst q
      rw [hx1]
      have h1 := Prd.succ (C := fun c => c ∈ cs) (h.prd _ (hm k hk)) (getD_mem hj)
      rwa [← e] at h1
  · rw [gets_snoc x hk, hd _ (hm k hk)]
    rcases List.mem_append.1 hy with q | q
    · rw [hd y q]; exact h.near hk y q
    · rw [List.mem_singleton.1 q, hx1]; exact Nat.le_refl _
  · obtain ⟨a, b⟩ := h.done i hi c hc
    rw [gets_snoc x (by omega), hd _ a, hd _ (hm i (by omega))]
    exact ⟨List.mem_append.2 (.inl a), b⟩
  · rw [gets_snoc x hk, hd _ (hm k hk)]
    by_cases e1 : i = j
    · rw [e1, ← e, hx1]
      exact ⟨by simp, Nat.le_refl _⟩
    · obtain ⟨a, b⟩ := h.now i (by omega)
      rw [hd _ a]
      exact ⟨List.mem_append.2 (.inl a), b⟩
theorem Shs.next (h : Shs cs V d k cs.length) (hk : k < V.length) : Shs cs V d (k + 1) 0 :=
  ⟨h.nd, h.one, h.d1, h.up, h.prd, fun hk1 y hy => Nat.le_trans (h.near hk y hy) (Nat.succ_le_succ (h.up (k + 1) hk1 k (Nat.le_succ k))), fun i hi c hc => by
    by_cases e : i = k
    · subst e
      obtain ⟨t, ht, rfl⟩ := List.getElem_of_mem hc
      have := h.now t ht
      rwa [show cs.getD t [] = cs[t] by simp [ht]] at this
    · exact h.done i (by omega) c hc, fun i hi => by omega⟩
/-- products of few factors have been reached, by no more -/
theorem Shs.got (h : Shs cs V d k j) {n : Nat} {x : List Int} (hp : Prd (fun c => c ∈ cs) n x) (hn : k < V.length → n ≤ d (V.getD k [])) : x ∈ V ∧ d x ≤ n := by
  induction hp with
  | zero =>
    have := getD_mem h.one.2
    rw [h.one.1] at this
    exact ⟨this, by rw [h.d1]; exact Nat.le_refl _⟩
  | @succ n y c _ hc ih =>
    obtain ⟨h1, h2⟩ := ih fun hk => by have := hn hk; omega
    obtain ⟨i, hi, rfl⟩ := List.getElem_of_mem h1
    rw [show V[i] = V.getD i [] by simp [hi]] at h2 ⊢
    have hik : i < k := by
      refine Nat.lt_of_not_le fun hk => ?_
      have h3 := h.up i hi k hk
      have h4 := hn (by omega)
      omega
    obtain ⟨a, b⟩ := h.done i hik c hc
    exact ⟨a, by omega⟩
/-- what has been reached has been reached by the least number of factors -/
theorem Shs.least (h : Shs cs V d k j) (hx : x ∈ V) : Lst (fun c => c ∈ cs) (d x) x := by
  refine ⟨h.prd x hx, fun m hm => ?_⟩
  by_cases hmk : k < V.length → m ≤ d (V.getD k [])
  · exact (h.got hm hmk).2
  · have hk : k < V.length := Classical.byContradiction fun hk => hmk fun h => absurd h hk
    have h1 : ¬ m ≤ d (V.getD k []) := fun h => hmk fun _ => h
    have h2 := h.near hk x hx
    omega
theorem Shs.all (h : Shs cs V d V.length 0) (hx : Gen cs x) : x ∈ V := by
  obtain ⟨n, hn⟩ := prd_gen.1 hx
  exact (h.got hn fun hk => absurd hk (Nat.lt_irrefl _)).1
end

/-- the commutators of a group: those of representatives of the classes with all elements, and the conjugates of these -/
theorem comm_cover {S : List (List Int)} (hS : Cl S) {G : List (List Int)} (hG : Els G) (hgen : ∀ a, Gen G a ↔ a ∈ S) {M : List Int → Prop} {rs : List (List Int)} (hr : ∀ a ∈ S, ∃ r ∈ rs, ∃ g ∈ S, a = conjL r g) (hrs : ∀ r ∈ rs, r ∈ S)
    (h1 : ∀ r ∈ rs, ∀ b ∈ S, M (commG r b)) (h2 : ∀ x, M x → El x ∧ ∀ g ∈ G, M (conjL x g)) {a b : List Int} (ha : a ∈ S) (hb : b ∈ S) : M (commG a b) := by
  have h3 : ∀ x, M x → ∀ g, Gen G g → M (conjL x g) := fun x hx g hg => by
    induction hg with
    | one => rw [conj_by_one (h2 x hx).1]; exact hx
    | step hy hm ih =>
      rw [conj_conj (h2 x hx).1 (hy.el hG) (hG _ hm)]
      exact (h2 _ ih).2 _ hm
  obtain ⟨r, hr1, g, hg, rfl⟩ := hr a ha
  have hrS := hrs r hr1
  have er := hS.1 r hrS
  have eg := hS.1 g hg
  have eb := hS.1 b hb
  have e : b = conjL (conjL b (invL g)) g := by
    rw [← conj_conj eb eg.inv eg, eg.inv_mul, conj_by_one eb]
  have hb2 : conjL b (invL g) ∈ S := by
    have gi := (Gen.of_mem hS.1 hg).inv hS.1
    exact hS.2 _ (((gi.inv hS.1).mul hS.1 (Gen.of_mem hS.1 hb)).mul hS.1 gi)
  rw [e, ← conj_comm er (eb.conj eg.inv) eg]
  exact h3 _ (h1 r hr1 _ hb2) g ((hgen g).2 hg)
end Go.Proofs.Ytjnjhfificpbbaa
