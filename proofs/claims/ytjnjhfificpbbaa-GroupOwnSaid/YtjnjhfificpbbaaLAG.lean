/- Plain mathematics: the order of a subgroup divides that of the group; subgroups of solvable groups; commutative groups. Nothing here speaks of the program. | Plain mathematics: the classes of a group are a partition, and their sizes divide the order. Nothing here speaks of the program. -/
import Derived.Test.YtjnjhfificpbbaaCLS
namespace Go.Proofs.Ytjnjhfificpbbaa
open Go.RowKit

theorem mul_cancel_right {a b x : List Int} (ha : El a) (hb : El b) (hx : El x) (h : mulL a x = mulL b x) : a = b := by
  have : mulL (mulL a x) (invL x) = mulL (mulL b x) (invL x) := by rw [h]
  rwa [ha.assoc _ hx, hb.assoc _ hx, hx.mul_inv, ha.mul_one, hb.mul_one] at this
theorem coset_nodup {M : List (List Int)} (hM : M.Nodup) (hels : ∀ m ∈ M, El m) {x : List Int} (hx : El x) : (M.map fun m => mulL m x).Nodup := by
  show List.Pairwise _ _
  rw [List.pairwise_map]
  exact List.Pairwise.imp_of_mem (fun ha hb hne h => hne (mul_cancel_right (hels _ ha) (hels _ hb) hx h)) hM
/-- a union of cosets -/
theorem lagr {M : List (List Int)} (hM : M.Nodup) (hels : ∀ m ∈ M, El m) (h1 : idL 7 ∈ M) (hmul : ∀ a ∈ M, ∀ b ∈ M, mulL a b ∈ M) (hinv : ∀ a ∈ M, invL a ∈ M) :
    ∀ (n : Nat) (R : List (List Int)), R.length ≤ n → R.Nodup → (∀ x ∈ R, El x) → (∀ m ∈ M, ∀ x ∈ R, mulL m x ∈ R) → M.length ∣ R.length
  | _, [], _, _, _, _ => Nat.dvd_zero _
  | 0, x :: R, hn, _, _, _ => by simp at hn
  | n + 1, x :: R, hn, hR, hE, hc => by
    obtain ⟨S, hS⟩ : ∃ S, S = x :: R := ⟨_, rfl⟩
    have hxS : x ∈ S := by rw [hS]; simp
    rw [← hS] at hn hR hE hc ⊢
    have hx := hE x hxS
    have hco := coset_nodup hM hels hx
    have hfm : ∀ y, y ∈ S.filter (fun y => decide (y ∈ M.map fun m => mulL m x)) ↔ y ∈ M.map fun m => mulL m x := fun y => by
      rw [List.mem_filter, decide_eq_true_iff]
      refine ⟨fun h => h.2, fun h => ⟨?_, h⟩⟩
      obtain ⟨m, hm, rfl⟩ := List.mem_map.1 h
      exact hc m hm x hxS
    have hl : (S.filter (fun y => decide (y ∈ M.map fun m => mulL m x))).length = M.length := by
      have := ((List.perm_ext_iff_of_nodup (hR.filter _) hco).2 hfm).length_eq
      rwa [List.length_map] at this
    have hsp := split_len (fun y => decide (y ∈ M.map fun m => mulL m x)) S
    have hpos : 0 < M.length := List.length_pos_of_mem h1
    have ih := lagr hM hels h1 hmul hinv n (S.filter fun y => !decide (y ∈ M.map fun m => mulL m x)) (by omega) (hR.filter _) (fun y hy => hE y (List.mem_filter.1 hy).1) (fun m hm y hy => by
      obtain ⟨y1, y2⟩ := List.mem_filter.1 hy
      refine List.mem_filter.2 ⟨hc m hm y y1, ?_⟩
      have y3 : ¬ y ∈ M.map fun m => mulL m x := by simpa using y2
      have : ¬ mulL m y ∈ M.map fun m => mulL m x := fun h => by
        obtain ⟨a, ha, e⟩ := List.mem_map.1 h
        refine y3 (List.mem_map.2 ⟨mulL (invL m) a, hmul _ (hinv m hm) _ ha, ?_⟩)
        have em := hels m hm
        have ey := hE y y1
        have : mulL (invL m) (mulL a x) = mulL (invL m) (mulL m y) := congrArg (mulL (invL m)) e
        rw [← em.inv.assoc _ em, em.inv_mul, ey.one_mul] at this
        rw [em.inv.assoc _ (hels a ha)]
        exact this
      simpa using this)
    rw [hsp, hl]
    exact Nat.dvd_add (Nat.dvd_refl _) ih

/-- a list that holds what it generates -/
def Cl (L : List (List Int)) : Prop := Els L ∧ ∀ a, Gen L a → a ∈ L
theorem Cl.one {L : List (List Int)} (h : Cl L) : idL 7 ∈ L := h.2 _ .one
theorem IsGrp.cl {ps : List (List Int)} (h : IsGrp ps) : Cl (pks ps) := ⟨h.1.els, h.2.2⟩
theorem els_comms {L : List (List Int)} (h : Els L) : Els (comms L) := fun x hx => by
  obtain ⟨a, b, ha, hb, rfl⟩ := mem_comms.1 hx
  exact (h a ha).comm (h b hb)
theorem Cl.comm {L : List (List Int)} (h : Cl L) {a b : List Int} (ha : a ∈ L) (hb : b ∈ L) : commG a b ∈ L :=
  h.2 _ (((Gen.of_mem h.1 ha).inv h.1).mul h.1 ((((Gen.of_mem h.1 hb).inv h.1).mul h.1 (Gen.of_mem h.1 ha)).mul h.1 (Gen.of_mem h.1 hb)))
theorem IsDer.cl {L K : List (List Int)} (hL : Els L) (h : IsDer L K) : Cl K :=
  ⟨fun a ha => ((h a).1 ha).el (els_comms hL), fun a ha => (h a).2 (ha.sub (els_comms hL) fun x hx => (h x).1 hx)⟩
theorem IsDer.le {L K : List (List Int)} (hL : Cl L) (h : IsDer L K) {a : List Int} (ha : a ∈ K) : a ∈ L :=
  hL.2 a (((h a).1 ha).sub hL.1 fun x hx => by
    obtain ⟨u, v, hu, hv, rfl⟩ := mem_comms.1 hx
    exact Gen.of_mem hL.1 (hL.comm hu hv))
theorem Cl.lagrange {L M : List (List Int)} (hL : Cl L) (hM : Cl M) (nl : L.Nodup) (nm : M.Nodup) (hs : ∀ a ∈ M, a ∈ L) : M.length ∣ L.length :=
  lagr nm hM.1 hM.one (fun _ ha _ hb => hM.2 _ ((Gen.of_mem hM.1 ha).mul hM.1 (Gen.of_mem hM.1 hb))) (fun _ ha => hM.2 _ ((Gen.of_mem hM.1 ha).inv hM.1)) _ L (Nat.le_refl _) nl hL.1
    fun m hm _ hx => hL.2 _ ((Gen.of_mem hL.1 (hs m hm)).mul hL.1 (Gen.of_mem hL.1 hx))
theorem chn_down : ∀ {L : List (List Int)} {Ls : List (List (List Int))} {M : List (List Int)}, Cl L → Chn (L :: Ls) → (L :: Ls).getLast? = some M → Cl M ∧ ∀ a ∈ M, a ∈ L
  | L, [], M, hL, _, h => by
    have : L = M := by simpa using h
    subst this; exact ⟨hL, fun _ => id⟩
  | L, K :: r, M, hL, hc, h => by
    obtain ⟨h1, h2⟩ := chn_down (hc.1.cl hL.1) hc.2.2 (by rw [List.getLast?_cons_cons] at h; exact h)
    exact ⟨h1, fun a ha => hc.1.le hL (h2 a ha)⟩
theorem chn_perfect {P : List (List Int)} (hP : IsDer P P) : ∀ {L : List (List Int)} {Ls : List (List (List Int))} {M : List (List Int)}, Cl L → Chn (L :: Ls) → (∀ a ∈ P, a ∈ L) → (L :: Ls).getLast? = some M → ∀ a ∈ P, a ∈ M
  | L, [], M, _, _, hs, h => by
    have : L = M := by simpa using h
    subst this; exact hs
  | L, K :: r, M, hL, hc, hs, h => chn_perfect hP (hc.1.cl hL.1) hc.2.2 (fun a ha => (hc.1 a).2 (((hP a).1 ha).sub (els_comms hL.1) fun x hx => by
      obtain ⟨u, v, hu, hv, rfl⟩ := mem_comms.1 hx
      exact Gen.of_mem (els_comms hL.1) (mem_comms.2 ⟨u, v, hs u hu, hs v hv, rfl⟩))) (by rw [List.getLast?_cons_cons] at h; exact h)
theorem Cl.congr {L K : List (List Int)} (h : ∀ x, x ∈ K ↔ x ∈ L) (hL : Cl L) : Cl K :=
  ⟨fun a ha => hL.1 a ((h a).1 ha), fun a ha => (h a).2 (hL.2 a (ha.sub hL.1 fun x hx => Gen.of_mem hL.1 ((h x).1 hx)))⟩
/-- a subgroup of a solvable group is solvable -/
theorem sol_sub {ps qs M1 M2 : List (List Int)} {Ls1 Ls2 : List (List (List Int))} (hp : IsGrp ps) (hq : IsGrp qs) (hs : ∀ a ∈ pks qs, a ∈ pks ps) (s1 : SerOf ps Ls1) (s2 : SerOf qs Ls2) (l1 : Ls1.getLast? = some M1) (l2 : Ls2.getLast? = some M2) (h : M1.length = 1) : M2.length = 1 := by
  obtain ⟨c1, ⟨L1, h1, m1⟩, _, _⟩ := s1
  obtain ⟨c2, ⟨L2, h2, m2⟩, ⟨P, p1, p2⟩, n2⟩ := s2
  rw [l2] at p1; cases p1
  rcases Ls1 with _ | ⟨L1', r1⟩
  · cases h1
  cases h1
  rcases Ls2 with _ | ⟨L2', r2⟩
  · cases h2
  cases h2
  obtain ⟨k1, k2⟩ := chn_down (hq.cl.congr m2) c2 l2
  have k3 := chn_perfect p2 (hp.cl.congr m1) c1 (fun a ha => (m1 a).2 (hs a ((m2 a).1 (k2 a ha)))) l1
  have k4 := nodup_le (n2 M2 (List.mem_of_getLast? l2)) k3
  have k5 := List.length_pos_of_mem k1.one
  omega
theorem comm_one {a b : List Int} (ha : El a) (hb : El b) : commG a b = idL 7 ↔ mulL a b = mulL b a := by
  have hc := ha.conj hb
  constructor
  · intro h
    have h1 : mulL a (commG a b) = mulL a (idL 7) := congrArg (mulL a) h
    unfold commG at h1
    rw [← ha.assoc _ ha.inv, ha.mul_inv, hc.one_mul, ha.mul_one] at h1
    have h2 : mulL b (conjL a b) = mulL b a := congrArg (mulL b) h1
    unfold conjL at h2
    rw [← hb.assoc _ (hb.inv.mul ha), ← hb.assoc _ hb.inv, hb.mul_inv, ha.one_mul] at h2
    exact h2
  · intro h
    unfold commG conjL
    rw [hb.inv.assoc _ ha, h, ← hb.inv.assoc _ hb, hb.inv_mul, ha.one_mul, ha.inv_mul]
/-- the derived group is trivial exactly for commutative groups -/
theorem der_center {ps K : List (List Int)} (hp : IsGrp ps) (hK : K.Nodup) (hd : IsDer (pks ps) K) : K.length = 1 ↔ (cenL ps).length = ps.length := by
  have hone : idL 7 ∈ K := (hd _).2 .one
  unfold cenL
  rw [List.length_filter_eq_length_iff]
  have hcom : ∀ {p r : List Int}, p ∈ ps → r ∈ ps → (mulL p r = mulL r p ↔ commG (pk7 p) (pk7 r) = idL 7) := fun {p r} h1 h2 => by
    obtain ⟨v1, l1⟩ := hp.1.mem h1
    obtain ⟨v2, l2⟩ := hp.1.mem h2
    rw [comm_one (pk7_el v1) (pk7_el v2), ← pk7_mul v1 v2 (l1.trans l2.symm), ← pk7_mul v2 v1 (l2.trans l1.symm)]
    exact ⟨fun h => by rw [h], fun h => pk7_same (by rw [length_mulL, length_mulL]; exact l1.trans l2.symm) h⟩
  constructor
  · intro h p h1
    refine decide_eq_true fun r h2 => (hcom h1 h2).2 ?_
    have hm : commG (pk7 p) (pk7 r) ∈ K := (hd _).2 (Gen.of_mem (els_comms hp.1.els) (mem_comms.2 ⟨_, _, List.mem_map.2 ⟨p, h1, rfl⟩, List.mem_map.2 ⟨r, h2, rfl⟩, rfl⟩))
    obtain ⟨x, rfl⟩ := List.length_eq_one_iff.1 h
    rw [List.mem_singleton.1 hm, List.mem_singleton.1 hone]
  · intro h
    have hall : ∀ a ∈ K, a ∈ [idL 7] := fun a ha => by
      refine List.mem_singleton.2 (((hd a).1 ha).least (S := fun x => x = idL 7) rfl fun x c hx hc => ?_)
      obtain ⟨u, v, hu, hv, rfl⟩ := mem_comms.1 hc
      obtain ⟨p, h1, rfl⟩ := List.mem_map.1 hu
      obtain ⟨r, h2, rfl⟩ := List.mem_map.1 hv
      rw [hx, (hcom h1 h2).1 (of_decide_eq_true (h p h1) r h2), El.one.mul_one]
    have := nodup_le hK hall
    have := List.length_pos_of_mem hone
    simp at *
    omega
/-- the derived group is normal -/
theorem der_normal {L K : List (List Int)} (hL : Cl L) (hd : IsDer L K) {a b : List Int} (ha : a ∈ K) (hb : b ∈ L) : conjL a b ∈ K :=
  (hd _).2 (der_conj (gs := L) hL.1 (fun x => by
    rw [mem_comms]
    exact ⟨fun ⟨u, v, hu, hv, e⟩ => ⟨u, v, Gen.of_mem hL.1 hu, Gen.of_mem hL.1 hv, e⟩, fun ⟨u, v, hu, hv, e⟩ => ⟨u, v, hL.2 u hu, hL.2 v hv, e⟩⟩) ((hd a).1 ha) (Gen.of_mem hL.1 hb))
end Go.Proofs.Ytjnjhfificpbbaa
namespace Go.Proofs.Ytjnjhfificpbbaa
open Go.RowKit

/-- counting by fibers -/
theorem fibers {f : List Int → List Int} : ∀ (K S : List (List Int)), K.Nodup → (∀ y ∈ S, f y ∈ K) → S.length = (K.map fun x => (S.filter fun y => decide (f y = x)).length).sum
  | [], S, _, h => by
    cases S with
    | nil => rfl
    | cons y S => have := h y (by simp); cases this
  | x :: K, S, hn, h => by
    rw [List.nodup_cons] at hn
    have ih := fibers (f := f) K (S.filter fun y => !decide (f y = x)) hn.2 (fun y hy => by
      obtain ⟨h1, h2⟩ := List.mem_filter.1 hy
      have h3 : ¬ f y = x := by simpa using h2
      rcases List.mem_cons.1 (h y h1) with e | e
      · exact absurd e h3
      · exact e)
    have hs := split_len (fun y => decide (f y = x)) S
    rw [List.map_cons, List.sum_cons, hs, ih]
    congr 2
    refine List.map_congr_left fun z hz => ?_
    congr 1
    rw [List.filter_filter]
    refine List.filter_congr fun y _ => ?_
    by_cases e : f y = z
    · have : ¬ z = x := fun h => hn.1 (h ▸ hz)
      simp [e, this]
    · simp [e]
theorem sum_const {α : Type} (c : Nat) (g : α → Nat) : ∀ K : List α, (∀ x ∈ K, g x = c) → (K.map g).sum = K.length * c
  | [], _ => by simp
  | x :: K, h => by
    rw [List.map_cons, List.sum_cons, sum_const c g K fun y hy => h y (by simp [hy]), h x (by simp), List.length_cons, Nat.succ_mul]
    omega
theorem conj_eq {e a b : List Int} (he : El e) (ha : El a) (hb : El b) : conjL e (mulL a b) = conjL (conjL e a) b := conj_conj he ha hb
/-- the size of a class divides the order -/
theorem cls_dvd {S : List (List Int)} (hS : Cl S) (hn : S.Nodup) {e : List Int} (he : e ∈ S) : (clsOf S e).length ∣ S.length := by
  have hE := hS.1 e he
  have hcl : ∀ x, x ∈ clsOf S e ↔ ∃ y ∈ S, conjL e y = x := fun x => by
    unfold clsOf
    rw [List.mem_filter, decide_eq_true_iff, List.mem_map]
    refine ⟨fun h => h.2, fun ⟨y, hy, e1⟩ => ⟨?_, y, hy, e1⟩⟩
    rw [← e1]
    have gy := Gen.of_mem hS.1 hy
    exact hS.2 _ (((gy.inv hS.1).mul hS.1 (Gen.of_mem hS.1 he)).mul hS.1 gy)
  have hf := fibers (f := conjL e) (clsOf S e) S (hn.filter _) fun y hy => (hcl _).2 ⟨y, hy, rfl⟩
  rw [sum_const ((S.filter fun y => decide (conjL e y = e)).length) _ (clsOf S e) fun x hx => ?_] at hf
  · exact ⟨_, hf⟩
  · obtain ⟨y, hy, rfl⟩ := (hcl x).1 hx
    have ey := hS.1 y hy
    have hp : (S.filter fun z => decide (conjL e z = conjL e y)).Perm ((S.filter fun z => decide (conjL e z = e)).map fun c => mulL c y) := by
      refine (List.perm_ext_iff_of_nodup (hn.filter _) (coset_nodup (hn.filter _) (fun m hm => hS.1 m (List.mem_filter.1 hm).1) ey)).2 fun z => ?_
      rw [List.mem_filter, decide_eq_true_iff, List.mem_map]
      constructor
      · rintro ⟨hz, ez⟩
        have ez' := hS.1 z hz
        refine ⟨mulL z (invL y), List.mem_filter.2 ⟨hS.2 _ ((Gen.of_mem hS.1 hz).mul hS.1 ((Gen.of_mem hS.1 hy).inv hS.1)), decide_eq_true ?_⟩, ?_⟩
        · rw [conj_conj hE ez' ey.inv, ez, ← conj_conj hE ey ey.inv, ey.mul_inv, conj_by_one hE]
        · rw [ez'.assoc _ ey.inv, ey.inv_mul, ez'.mul_one]
      · rintro ⟨c, hc, rfl⟩
        obtain ⟨c1, c2⟩ := List.mem_filter.1 hc
        have c2 := of_decide_eq_true c2
        exact ⟨hS.2 _ ((Gen.of_mem hS.1 c1).mul hS.1 (Gen.of_mem hS.1 hy)), by rw [conj_conj hE (hS.1 c c1) ey, c2]⟩
    rw [hp.length_eq, List.length_map]

theorem mem_cls {S : List (List Int)} (hS : Cl S) {e : List Int} (he : e ∈ S) (x : List Int) : x ∈ clsOf S e ↔ ∃ y ∈ S, conjL e y = x := by
  unfold clsOf
  rw [List.mem_filter, decide_eq_true_iff, List.mem_map]
  refine ⟨fun h => h.2, fun ⟨y, hy, e1⟩ => ⟨?_, y, hy, e1⟩⟩
  rw [← e1]
  have gy := Gen.of_mem hS.1 hy
  exact hS.2 _ (((gy.inv hS.1).mul hS.1 (Gen.of_mem hS.1 he)).mul hS.1 gy)
theorem self_cls {S : List (List Int)} (hS : Cl S) {e : List Int} (he : e ∈ S) : e ∈ clsOf S e := (mem_cls hS he e).2 ⟨_, hS.one, conj_by_one (hS.1 e he)⟩
theorem cls_in {S : List (List Int)} {e x : List Int} (hx : x ∈ clsOf S e) : x ∈ S := (List.mem_filter.1 hx).1
/-- a class is the class of each of its members -/
theorem cls_of {S : List (List Int)} (hS : Cl S) {e x : List Int} (he : e ∈ S) (hx : x ∈ clsOf S e) : clsOf S x = clsOf S e := by
  obtain ⟨y, hy, rfl⟩ := (mem_cls hS he x).1 hx
  have hE := hS.1 e he
  have ey := hS.1 y hy
  unfold clsOf
  refine List.filter_congr fun z _ => ?_
  rw [decide_eq_decide, List.mem_map, List.mem_map]
  constructor
  · rintro ⟨t, ht, rfl⟩
    exact ⟨mulL y t, hS.2 _ ((Gen.of_mem hS.1 hy).mul hS.1 (Gen.of_mem hS.1 ht)), conj_conj hE ey (hS.1 t ht)⟩
  · rintro ⟨t, ht, rfl⟩
    have et := hS.1 t ht
    refine ⟨mulL (invL y) t, hS.2 _ (((Gen.of_mem hS.1 hy).inv hS.1).mul hS.1 (Gen.of_mem hS.1 ht)), ?_⟩
    rw [← conj_conj hE ey (ey.inv.mul et), ← ey.assoc _ ey.inv, ey.mul_inv, et.one_mul]
theorem clsTo_of {S : List (List Int)} : ∀ k, k ≤ S.length → ∀ C ∈ clsTo S k, ∃ e ∈ S, C = clsOf S e
  | 0, _ => fun C h => by cases h
  | k + 1, hk => fun C h => by
    unfold clsTo at h
    split at h
    · exact clsTo_of k (by omega) C h
    · rcases List.mem_append.1 h with h | h
      · exact clsTo_of k (by omega) C h
      · exact ⟨_, getD_mem (by omega), List.mem_singleton.1 h⟩
theorem clsTo_nodup {S : List (List Int)} (hS : Cl S) (hn : S.Nodup) : ∀ k, k ≤ S.length → (clsTo S k).flatten.Nodup
  | 0, _ => by simp [clsTo]
  | k + 1, hk => by
    have ih := clsTo_nodup hS hn k (by omega)
    unfold clsTo
    split
    · exact ih
    · rename_i h
      rw [List.flatten_append, List.flatten_singleton]
      have he : S.getD k [] ∈ S := getD_mem (by omega)
      refine List.nodup_append.2 ⟨ih, hn.filter _, fun z hz w hw hzw => ?_⟩
      subst hzw
      obtain ⟨C, hC, hzC⟩ := List.mem_flatten.1 hz
      obtain ⟨e', he', rfl⟩ := clsTo_of k (by omega) C hC
      have h1 := cls_of hS he' hzC
      have h2 := cls_of hS he hw
      exact h (List.mem_flatten.2 ⟨_, hC, by rw [← h1, h2]; exact self_cls hS he⟩)
theorem clsTo_got {S : List (List Int)} (hS : Cl S) : ∀ k, k ≤ S.length → ∀ i, i < k → S.getD i [] ∈ (clsTo S k).flatten
  | 0, _ => fun i h => by omega
  | k + 1, hk => fun i h => by
    unfold clsTo
    split
    · rename_i h1
      by_cases e : i = k
      · rw [e]; exact h1
      · exact clsTo_got hS k (by omega) i (by omega)
    · rw [List.flatten_append, List.mem_append]
      by_cases e : i = k
      · rw [e]; exact .inr (by simpa using self_cls hS (getD_mem (by omega)))
      · exact .inl (clsTo_got hS k (by omega) i (by omega))
/-- the classes are a partition -/
theorem cls_part {S : List (List Int)} (hS : Cl S) (hn : S.Nodup) : (clsTo S S.length).flatten.Perm S := by
  refine (List.perm_ext_iff_of_nodup (clsTo_nodup hS hn _ (Nat.le_refl _)) hn).2 fun x => ⟨fun h => ?_, fun h => ?_⟩
  · obtain ⟨C, hC, hx⟩ := List.mem_flatten.1 h
    obtain ⟨e, _, rfl⟩ := clsTo_of _ (Nat.le_refl _) C hC
    exact cls_in hx
  · obtain ⟨i, hi, rfl⟩ := List.getElem_of_mem h
    have := clsTo_got hS S.length (Nat.le_refl _) i hi
    rwa [show S.getD i [] = S[i] by simp [hi]] at this
theorem conj_fix {a b : List Int} (ha : El a) (hb : El b) : conjL a b = a ↔ mulL a b = mulL b a := by
  constructor
  · intro h
    have h2 : mulL b (conjL a b) = mulL b a := by rw [h]
    unfold conjL at h2
    rwa [← hb.assoc _ (hb.inv.mul ha), ← hb.assoc _ hb.inv, hb.mul_inv, ha.one_mul] at h2
  · intro h
    unfold conjL
    rw [hb.inv.assoc _ ha, h, ← hb.inv.assoc _ hb, hb.inv_mul, ha.one_mul]
/-- classes of one element are the central ones -/
theorem cls_one {S : List (List Int)} (hS : Cl S) {e : List Int} (he : e ∈ S) (hn : S.Nodup) : (clsOf S e).length = 1 ↔ ∀ y ∈ S, mulL e y = mulL y e := by
  constructor
  · intro h y hy
    obtain ⟨x, hx⟩ := List.length_eq_one_iff.1 h
    have h1 := self_cls hS he
    have h2 := (mem_cls hS he _).2 ⟨y, hy, rfl⟩
    rw [hx] at h1 h2
    rw [← conj_fix (hS.1 e he) (hS.1 y hy), List.mem_singleton.1 h2, List.mem_singleton.1 h1]
  · intro h
    have h1 := nodup_le (K := clsOf S e) (L := [e]) (hn.filter _) fun x hx => by
      obtain ⟨y, hy, rfl⟩ := (mem_cls hS he x).1 hx
      exact List.mem_singleton.2 ((conj_fix (hS.1 e he) (hS.1 y hy)).2 (h y hy))
    have h2 := List.length_pos_of_mem (self_cls hS he)
    simp at h1
    omega
end Go.Proofs.Ytjnjhfificpbbaa
