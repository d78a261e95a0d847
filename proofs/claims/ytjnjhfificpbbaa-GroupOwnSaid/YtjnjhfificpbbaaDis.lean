/- The reference's Distance. -/
import Derived.Test.YtjnjhfificpbbaaPrs
namespace Go.Proofs.Ytjnjhfificpbbaa
open Go Go.RowKit

/-- the search by layers: P has been left, N is the layer, X the next one; m is the layer's number; the first i of N have been looked at, and k products of the next one -/
structure Lay (n : Nat) (Ss : List (List Int)) (z : List Int) (P N X : List (List Int)) (d : List Int → Nat) (m i k : Nat) : Prop where
  bq : Bq n Ss (P ++ N ++ X)
  sh : Shs (pks Ss) (pks (P ++ N ++ X)) d (P.length + i) k
  dn : ∀ x ∈ N, d (pk7 x) = m
  dx : ∀ x ∈ X, d (pk7 x) = m + 1
  no : ∀ t, t < P.length + i → (P ++ N ++ X).getD t [] ≠ z
section
variable {n m i k : Nat} {Ss P N X : List (List Int)} {z x c : List Int} {d : List Int → Nat}
theorem Lay.start (h1 : 1 ≤ n) (h7 : n ≤ 7) (Ss : List (List Int)) (z : List Int) : Lay n Ss z [] [idL n] [] (fun _ => 0) 0 0 0 :=
  ⟨Bq.start h1 h7, by
    have : pks ([] ++ [idL n] ++ []) = [idL 7] := by simp [pks, pk7_id h7]
    rw [this]; exact Shs.start _, fun _ _ => rfl, fun x hx => by simp at hx, fun t ht => by simp at ht⟩
theorem pks_app (A B : List (List Int)) : pks (A ++ B) = pks A ++ pks B := by simp [pks]
theorem lay_at (hi : i < N.length) : (P ++ N ++ X).getD (P.length + i) [] = N.getD i [] := by
  rw [List.append_assoc, List.getD_eq_getElem?_getD, List.getElem?_append_right (by omega), Nat.add_sub_cancel_left, List.getElem?_append_left hi, ← List.getD_eq_getElem?_getD]
theorem lay_pk (hi : i < N.length) : (pks (P ++ N ++ X)).getD (P.length + i) [] = pk7 (N.getD i []) := by
  rw [pks_getD (by simp; omega), lay_at hi]
theorem lay_in (hi : i < N.length) : N.getD i [] ∈ P ++ N ++ X := by
  have : N.getD i [] ∈ N := getD_mem hi
  simp only [List.mem_append]; exact .inl (.inr this)
theorem lay_lt (hi : i < N.length) : P.length + i < (pks (P ++ N ++ X)).length := by rw [pks_len]; simp; omega
theorem Lay.pk_in (h : Lay n Ss z P N X d m i k) (hv : x.length = n) : pk7 x ∈ pks (P ++ N ++ X) ↔ x ∈ P ++ N ++ X := by
  unfold pks
  rw [List.mem_map]
  constructor
  · rintro ⟨y, hy, e⟩
    rw [← pk7_same ((h.bq.valid y hy).2.trans hv.symm) e]; exact hy
  · exact fun hx => ⟨x, hx, rfl⟩
theorem Lay.found (h : Lay n Ss z P N X d m i k) (hi : i < N.length) (e : N.getD i [] = z) : Lst (fun c => c ∈ pks Ss) m (pk7 z) := by
  have h1 := h.sh.least (x := pk7 z) (by rw [← e]; exact List.mem_map.2 ⟨_, lay_in hi, rfl⟩)
  have h2 := h.dn z (by rw [← e]; exact getD_mem hi)
  rwa [h2] at h1
theorem Lay.seen (h : Lay n Ss z P N X d m i 0) (hi : i < N.length) (e : N.getD i [] ≠ z) : Lay n Ss z P N X d m i 0 ∧ ∀ t, t < P.length + i + 1 → (P ++ N ++ X).getD t [] ≠ z :=
  ⟨h, fun t ht => by
    by_cases q : t = P.length + i
    · rw [q, lay_at hi]; exact e
    · exact h.no t (by omega)⟩
theorem Lay.has (h : Lay n Ss z P N X d m i k) (hi : i < N.length) (hk : k < Ss.length) (hS : ∀ s ∈ Ss, validL s = true ∧ s.length = n) (hx : mulL (N.getD i []) (Ss.getD k []) ∈ P ++ N ++ X) : Lay n Ss z P N X d m i (k + 1) := by
  refine ⟨h.bq, h.sh.has (lay_lt hi) ?_, h.dn, h.dx, h.no⟩
  obtain ⟨v1, l1⟩ := h.bq.valid _ (lay_in hi)
  obtain ⟨v2, l2⟩ := hS _ (getD_mem hk)
  rw [lay_pk hi, pks_getD hk, ← pk7_mul v1 v2 (l1.trans l2.symm)]
  exact List.mem_map.2 ⟨_, hx, rfl⟩
theorem Lay.add (h : Lay n Ss z P N X d m i k) (hi : i < N.length) (hk : k < Ss.length) (hS : ∀ s ∈ Ss, validL s = true ∧ s.length = n) (e : x = mulL (N.getD i []) (Ss.getD k [])) (hx : x ∉ P ++ N ++ X) : Lay n Ss z P N (X ++ [x]) (dNew d (pk7 x) (m + 1)) m i (k + 1) := by
  obtain ⟨v1, l1⟩ := h.bq.valid _ (lay_in hi)
  obtain ⟨v2, l2⟩ := hS _ (getD_mem hk)
  have hl : x.length = n := by rw [e, length_mulL]; exact l1
  have hn : pk7 x ∉ pks (P ++ N ++ X) := fun q => hx ((h.pk_in hl).1 q)
  have hd : ∀ y ∈ P ++ N ++ X, dNew d (pk7 x) (m + 1) (pk7 y) = d (pk7 y) := fun y hy => by
    unfold dNew
    rw [if_neg fun q => hn (by rw [← q]; exact List.mem_map.2 ⟨y, hy, rfl⟩)]
  have hm : d (pk7 (N.getD i [])) = m := h.dn _ (getD_mem hi)
  have ha := h.sh.add (x := pk7 x) (lay_lt hi) (by rw [pks_len]; exact hk) hn (by rw [lay_pk hi, pks_getD hk, ← pk7_mul v1 v2 (l1.trans l2.symm), e])
  rw [lay_pk hi, hm] at ha
  refine ⟨?_, ?_, fun y hy => ?_, fun y hy => ?_, fun t ht => ?_⟩
  · rw [← List.append_assoc, e]
    exact h.bq.push (getD_mem hk) ⟨v2, l2⟩ (lay_in hi) (by rw [← e]; exact hx)
  · rw [← List.append_assoc, pks_app]
    exact ha
  · rw [hd y (by simp [hy])]; exact h.dn y hy
  · rcases List.mem_append.1 hy with q | q
    · rw [hd y (by simp [q])]; exact h.dx y q
    · rw [List.mem_singleton.1 q]; unfold dNew; rw [if_pos rfl]
  · rw [← List.append_assoc, gets_snoc x (by simp; omega)]
    exact h.no t ht
theorem Lay.next (h : Lay n Ss z P N X d m i Ss.length) (hi : i < N.length) (e : N.getD i [] ≠ z) : Lay n Ss z P N X d m (i + 1) 0 :=
  ⟨h.bq, Shs.next (by rw [pks_len]; exact h.sh) (lay_lt hi), h.dn, h.dx, fun t ht => by
    by_cases q : t = P.length + i
    · rw [q, lay_at hi]; exact e
    · exact h.no t (by omega)⟩
theorem Lay.layer (h : Lay n Ss z P N X d m N.length 0) : Lay n Ss z (P ++ N) X [] d (m + 1) 0 0 := by
  have e : P ++ N ++ X ++ [] = P ++ N ++ X := List.append_nil _
  refine ⟨by rw [e]; exact h.bq, ?_, h.dx, fun x hx => (by cases hx), fun t ht => ?_⟩
  · rw [e, List.length_append]; exact h.sh
  · rw [e]; exact h.no t (by rw [List.length_append] at ht; omega)
theorem Lay.none (h : Lay n Ss z P [] [] d m 0 0) (hl : z.length = n) : ¬ Gen (pks Ss) (pk7 z) := fun hg => by
  have hs := h.sh
  have hn := h.no
  have hp := h.pk_in hl
  rw [List.append_nil, List.append_nil] at hs hn hp
  rw [show P.length + 0 = (pks P).length by rw [pks_len]; rfl] at hs
  have := hp.1 (hs.all hg)
  obtain ⟨t, ht, e⟩ := List.getElem_of_mem this
  exact hn t (by omega) (by rw [← e]; simp [ht])
theorem Lay.len (h : Lay n Ss z P N X d m i k) : P.length + N.length + X.length ≤ fact n := by
  have := h.bq.le
  rw [List.length_append, List.length_append] at this
  exact this
end

/-- what stands: the set in block c, its marks in block g, the row of the layer and that of the next one -/
structure DSt (W L c g n : Nat) (w wr : World) (nv xv : Value) (P N X : List (List Int)) (ys xs : List Value) : Prop where
  st : Blk wr c 63 #[.int .i64 n, .slice (some ⟨g, 0, none⟩) (fact n) (fact n)]
  mrk : Blk wr g 4 (mkm (fact n) (rks (P ++ N ++ X)))
  n1 : wr.ownsRow W 32 1 nv N.length ys
  n2 : ∀ i, i < N.length → Ow W wr (ys.getD i undef) (N.getD i [])
  n3 : ∀ b, nv.ownBlock = some b → b < L
  nl : ys.length = N.length
  x1 : wr.ownsRow L 32 1 xv X.length xs
  x2 : ∀ i, i < X.length → Ow W wr (xs.getD i undef) (X.getD i [])
  xl : xs.length = X.length
  be : Below W w wr
  lo : W ≤ g
  lw : W ≤ w.heap.size
  lL : W ≤ L ∧ L ≤ wr.heap.size
theorem row_mono {B B' sz n : Nat} {w : World} {e : TypeId} {v : Value} {xs : List Value} (h : w.ownsRow B e sz v n xs) (hB : B' ≤ B) : w.ownsRow B' e sz v n xs := by
  refine ⟨h.1, ?_⟩
  rcases h.2 with h | ⟨g, cap, cur, e1, e2, e3⟩
  · exact .inl h
  · exact .inr ⟨g, cap, cur, e1, Nat.le_trans hB e2, e3⟩
section
variable {W L c g n : Nat} {w wr w' : World} {nv xv xv' y tmp : Value} {P N X : List (List Int)} {ys xs : List Value} {q : List Int}
theorem DSt.below (h : DSt W L c g n w wr nv xv P N X ys xs) (hb : Below wr.heap.size wr w') : DSt W L c g n w w' nv xv P N X ys xs :=
  ⟨h.st.below hb, h.mrk.below hb, row_below h.n1 hb, fun i hi => (h.n2 i hi).below hb, h.n3, h.nl, row_below h.x1 hb, fun i hi => (h.x2 i hi).below hb, h.xl, h.be.trans (hb.mono (Nat.le_trans h.lw h.be.size)), h.lo, h.lw, ⟨h.lL.1, Nat.le_trans h.lL.2 hb.size⟩⟩
theorem DSt.layer (h : DSt W L c g n w wr nv xv P N X ys xs) : DSt W wr.heap.size c g n w wr xv (.slice none 0 0) (P ++ N) X [] xs [] :=
  ⟨h.st, by rw [List.append_nil]; exact h.mrk, row_mono h.x1 h.lL.1, h.x2, fun b hb => (World.ownsRow.lt h.x1 b hb).2, h.xl, World.ownsRow_nil _ _ _ _, fun i hi => (by cases hi), rfl, h.be, h.lo, h.lw, ⟨Nat.le_trans h.lL.1 h.lL.2, Nat.le_refl _⟩⟩
theorem DSt.push (h : DSt W L c g n w wr nv xv P N X ys xs) (hy : Ow W wr y q) (ho : w'.ownsRow L 32 1 xv' (X.length + 1) (xs ++ [y])) (hg : ((wr.setCell ⟨g, rankL q, none⟩ (.bool true)).alloc (.cells #[tmp] 32)).grownBy w' xv.ownBlock) : DSt W L c g n w w' nv xv' P N (X ++ [q]) ys (xs ++ [y]) := by
  have hx1 := World.ownsRow.alloc (row_set (i := rankL q) (u := .bool true) h.x1 h.mrk (by decide)) (.cells #[tmp] 32)
  have ht := row_typ hx1
  have keep : ∀ {u r}, Ow W wr u r → Ow W w' u r := fun {u r} hx => row_other (t := 32) (World.ownsRow.alloc (row_set hx h.mrk (by decide)) _) hg ht (by decide)
  have hcg : c ≠ g := h.st.ne h.mrk (by decide)
  have b1 : Below W w (wr.setCell ⟨g, rankL q, none⟩ (.bool true)) := h.be.setCell h.lo _
  have hz := Nat.le_trans h.lw b1.size
  have hs : (wr.setCell ⟨g, rankL q, none⟩ (.bool true)).heap.size = wr.heap.size := by simp
  refine ⟨((h.st.other g (rankL q) (.bool true) hcg).alloc _).grown hg ht (by decide), ?_, ?_, fun i hi => keep (h.n2 i hi), h.n3, h.nl, by rw [List.length_append]; exact ho, fun i hi => ?_, by simp [h.xl], ?_, h.lo, h.lw, ⟨h.lL.1, ?_⟩⟩
  · rw [← List.append_assoc, rks_snoc, ← mkm_set]
    exact ((h.mrk.set (rankL q) (.bool true)).alloc _).grown hg ht (by decide)
  · refine World.ownsRow.kept (World.ownsRow.alloc (row_set (i := rankL q) (u := .bool true) h.n1 h.mrk (by decide)) _) hg ?_
    cases hv : nv.ownBlock with
    | none => exact .inl rfl
    | some b =>
      refine .inr fun e1 => ?_
      have h1 := h.n3 b hv
      have h2 := (World.ownsRow.lt h.x1 b e1.symm).1
      omega
  · rw [List.length_append] at hi
    simp only [List.length_cons, List.length_nil] at hi
    have hl := h.xl
    by_cases e : i < X.length
    · have e1 : (xs ++ [y]).getD i undef = xs.getD i undef := by simp [List.getD_eq_getElem?_getD, List.getElem?_append_left (show i < xs.length by omega)]
      have e2 : (X ++ [q]).getD i [] = X.getD i [] := by simp [List.getD_eq_getElem?_getD, List.getElem?_append_left e]
      rw [e1, e2]; exact keep (h.x2 i e)
    · have e0 : i = X.length := by omega
      have e1 : (xs ++ [y]).getD i undef = y := by rw [e0, ← hl]; simp
      have e2 : (X ++ [q]).getD i [] = q := by rw [e0]; simp
      rw [e1, e2]; exact keep hy
  · exact (b1.alloc hz (.cells #[tmp] 32)).grown hg (by rw [World.size_alloc]; omega) (fun r e => Nat.le_trans h.lL.1 (World.ownsRow.lt h.x1 r e).1)
  · have := hg.size
    rw [World.size_alloc, hs] at this
    have := h.lL.2
    omega
end
set_option maxRecDepth 100000 in
set_option maxHeartbeats 8000000 in
theorem distance_any (u v : Value) (ps : List (List Int)) (z : List Int) (w : World) (h : Sps w u ps) (hp : IsGrp ps) (k : Sl w v z) (hz : validL z = true) (hl : z.length = (ps.getD 0 []).length) :
    Calls Try.prog 38 #[u, v] w fun e w' => ∃ r : Int, e = .returned (.int .i64 r) ∧ ((¬ Gen (comms (pks ps)) (pk7 z) ∧ r = -1) ∨ ∃ m : Nat, r = m ∧ m ≤ 5040 ∧ Lst (fun c => c ∈ comms (pks ps)) m (pk7 z)) ∧ Below w.heap.size w w' := by
  obtain ⟨i1, hq0, hq1, hq2, hq3⟩ := info_parts infoPerm3
  have hg := hp.1
  have hv0 := (validL_iff _).1 (hg.2.2 0 hg.1).1
  have hcl := comms_lists hg
  have hcg := comms_gen hg hcl
  obtain ⟨Ss, hSs⟩ : ∃ Ss, Ss = rl (ps.getD 0 []).length (rks (cmTo ps ps.length 0)) := ⟨_, rfl⟩
  rw [← hSs] at hcl hcg
  have HSs := Lib.hid hSs
  obtain ⟨n, hn⟩ : ∃ n, n = (ps.getD 0 []).length := ⟨_, rfl⟩
  have h1 : 1 ≤ n := by rw [hn]; exact hv0.1
  have h7 : n ≤ 7 := by rw [hn]; exact hv0.2.1
  rw [← hn] at hcl hl
  have hmS := hcl.mem h1 h7
  have hCs : ∀ c, c ∈ pks Ss ↔ c ∈ comms (pks ps) := fun c => ⟨fun hc => by
    obtain ⟨p, hp', rfl⟩ := List.mem_map.1 hc
    exact ((hmS p).1 hp').2.2, fun hc => by
    obtain ⟨p, a, b, rfl⟩ := comms_pk hg hc
    exact List.mem_map.2 ⟨p, (hmS p).2 ⟨a, b.trans hn.symm, hc⟩, rfl⟩⟩
  have HRes := Lib.hid (show (∀ m, Lst (fun c => c ∈ pks Ss) m (pk7 z) → Lst (fun c => c ∈ comms (pks ps)) m (pk7 z)) ∧ (¬ Gen (pks Ss) (pk7 z) → ¬ Gen (comms (pks ps)) (pk7 z)) from
    ⟨fun m hm => lst_same (fun c hc => (hCs c).1 hc) (fun c hc => .inl ((hCs c).2 hc)) (fun c hc => hcg.1.els c hc) hm, fun h h2 => h ((hcg.2.2 _).2 h2)⟩)
  have HSv := Lib.hid (show ∀ s ∈ Ss, validL s = true ∧ s.length = n from fun s hs => ⟨((hmS s).1 hs).1, ((hmS s).1 hs).2.1⟩)
  obtain ⟨F, hF⟩ : ∃ F, F = fact n := ⟨_, rfl⟩
  obtain ⟨f1, f2⟩ := fact_le n h7
  rw [← hF] at f1 f2
  have HF := Lib.hid hF
  have hs0 : 0 < Ss.length := hcg.1.1
  have hs1 : Ss.length ≤ 5040 := hcg.1.2.1
  have HH := Lib.hid h
  have HG := Lib.hid hg
  have HK := Lib.hid k
  have HZv := Lib.hid hz
  have HZl := Lib.hid hl
  obtain ⟨a, cap, rfl, _⟩ := h
  obtain ⟨za, zc, rfl, _⟩ := k
  obtain ⟨m0, hm0⟩ : ∃ m0, m0 = ps.length := ⟨_, rfl⟩
  rw [← hm0] at HH ⊢
  rw [hl] at HK ⊢
  clear hp hg hv0 hcl hcg hSs hn hmS hCs hF hz hl hm0
  go_enter Try.func38, Try.ntmps38
  go_wp2_with fail
  refine (refComms_any _ ps _ HH.out HG.out).mono ?_
  rintro e w1 ⟨x, rfl, ho, hb⟩
  rw [← HSs.out] at ho
  have HS1 := Lib.hid ho.sps
  have HB1 := Lib.hid hb
  have HK1 := Lib.hid (HK.out.below hb)
  obtain ⟨sa, sc, rfl, hU⟩ := ho.sps
  obtain ⟨ns, hns⟩ : ∃ ns, ns = Ss.length := ⟨_, rfl⟩
  have HNs := Lib.hid hns
  rw [← hns] at HS1 hs0 hs1 ⊢
  rcases hU with hU | ⟨bS, oS, rfl, hU⟩
  · rw [hU] at hns; simp at hns; omega
  have HU := Lib.hid hU
  clear ho hb hU hns HH HK
  go_wp2_with fail
  refine (SetOf_any n (.slice none 0 0) [] _ h1 h7 ⟨none, 0, rfl, .inl rfl⟩ (fun p hp => by simp at hp) (by simp)).mono ?_
  rintro e w2 ⟨g, rfl, hlo, hmk, hb1⟩
  unfold setV
  rw [← HF.out]
  have M1 := Lib.hid (hmk.alloc (.cells #[.int .i64 n, .slice (some ⟨g, 0, none⟩) F F] 63))
  have C1 := Lib.hid (Blk.new w2 63 #[.int .i64 n, .slice (some ⟨g, 0, none⟩) F F])
  have B1 := Lib.hid (hb1.alloc hb1.size (.cells #[.int .i64 n, .slice (some ⟨g, 0, none⟩) F F] 63))
  have HLo := Lib.hid hlo
  clear hmk hb1 hlo
  go_wp2_with fail
  refine (refid_blk n _ (by omega)).mono ?_
  rintro e w3 ⟨rfl, hI, hb2⟩
  have M2 := M1.out.below hb2
  have C2 := C1.out.below hb2
  have B2 := B1.out.trans (hb2.mono B1.out.size)
  have hlt2 : (w2.alloc (.cells #[.int .i64 n, .slice (some ⟨g, 0, none⟩) F F] 63)).heap.size < w3.heap.size := hI.lt
  have hz2 := B2.size
  obtain ⟨ib, hib⟩ : ∃ ib, ib = (w2.alloc (.cells #[.int .i64 n, .slice (some ⟨g, 0, none⟩) F F] 63)).heap.size := ⟨_, rfl⟩
  obtain ⟨c, hc⟩ : ∃ c, c = w2.heap.size := ⟨_, rfl⟩
  rw [← hib] at hI hlt2 ⊢
  rw [← hc] at C2 ⊢
  have hF0 : 0 < fact n := by rw [← HF.out]; omega
  have k1 : w3.cell? ⟨c, 1, none⟩ = some (.slice (some ⟨g, 0, none⟩) F F) := by rw [C2.cell 1]; rfl
  have k2 : w3.cell? ⟨g, 0, none⟩ = some (.bool (decide (((0 : Nat) : Int) ∈ rks []))) := by rw [M2.cell 0, mkm_get _ _ _ hF0]
  have k3 := M2.free 0
  have hcl : c < w3.heap.size := C2.lt
  have hgl : g < w3.heap.size := M2.lt
  have HI := Lib.hid hI
  have HC2 := Lib.hid C2
  have HM2 := Lib.hid M2
  have HB2 := Lib.hid B2
  have hib0 : w1.heap.size ≤ ib := by have := B1.out.size; rw [World.size_alloc] at this; rw [hib, World.size_alloc]; omega
  have HIB := Lib.hid hib0
  clear hI C2 M2 B2 hib hc hb2 M1 C1 B1 hib0
  go_wp2_with fail
  have hW4 : ∃ ys, DSt w1.heap.size ((w3.setCell ⟨g, 0, none⟩ (.bool true)).alloc (.cells #[.slice (some ⟨ib, 0, none⟩) n n] 32)).heap.size c g n w1 ((w3.setCell ⟨g, 0, none⟩ (.bool true)).alloc (.cells #[.slice (some ⟨ib, 0, none⟩) n n] 32)) (.slice (some ⟨w3.heap.size, 0, none⟩) 1 1) (.slice none 0 0) [] [idL n] [] ys [] := by
    have e0 : rks ([] ++ [idL n] ++ []) = rks [] ++ [((0 : Nat) : Int)] := by simp [rks, rank_id n h7]
    have st := HC2.out
    rw [HF.out] at st
    have hsz : (w3.setCell ⟨g, 0, none⟩ (.bool true)).heap.size = w3.heap.size := by simp
    refine ⟨[.slice (some ⟨ib, 0, none⟩) n n], (st.other g 0 (.bool true) (HC2.out.ne HM2.out (by decide))).alloc _, ?_, ?_, fun i hi => ?_, fun b hb => ?_, rfl, World.ownsRow_nil _ _ _ _, fun i hi => (by cases hi), rfl, ?_, HLo.out, Nat.le_refl _, ⟨?_, Nat.le_refl _⟩⟩
    · rw [e0, ← mkm_set]; exact (HM2.out.set 0 (.bool true)).alloc _
    · have := Blk.new (w3.setCell ⟨g, 0, none⟩ (.bool true)) 32 #[.slice (some ⟨ib, 0, none⟩) n n]
      rw [hsz] at this
      exact ⟨rfl, .inr ⟨w3.heap.size, 1, _, rfl, hz2, this, Nat.le_refl _, by unfold maxLen; omega, rfl, rfl⟩⟩
    · have e : i = 0 := by simpa using hi
      subst e
      exact Ow.of_blk ((HI.out.other g 0 (.bool true) (HI.out.ne HM2.out (by decide))).alloc _) HIB.out (by rw [length_idL]; omega) n (length_idL n).symm
    · have e := Option.some.inj (show some w3.heap.size = some b from hb)
      rw [World.size_alloc, hsz]; omega
    · exact (HB2.out.setCell HLo.out _).alloc (by rw [hsz]; exact hz2) _
    · rw [World.size_alloc, hsz]; omega
  obtain ⟨ys0, hW4⟩ := hW4
  have W4 := Lib.hid hW4
  have HL0 := Lib.hid (Lay.start h1 h7 Ss z)
  clear hW4 HI HC2 HM2 HB2 HIB k1 k2 k3 hcl hgl hlt2 HLo
  generalize (w3.setCell ⟨g, 0, none⟩ (.bool true)).alloc (.cells #[.slice (some ⟨ib, 0, none⟩) n n] 32) = w4 at *
  go_loopg [7, 8] (F + 1) (fun K nv mv wr => ∃ P N ys d, ∃ m : Nat, mv = .int .i64 m ∧ m ≤ P.length ∧ Hid (K = F + 1 - P.length) ∧ Hid (Lay n Ss z P N [] d m 0 0) ∧ Hid (DSt w1.heap.size wr.heap.size c g n w1 wr nv (.slice none 0 0) P N [] ys []))
  case atStart => exact ⟨[], [idL n], ys0, _, 0, rfl, Nat.le_refl _, Lib.hid (by simp), HL0, W4⟩
  case round =>
    clear W4 HL0 hz2 ys0 hF0
    obtain ⟨P, N, ys, d, m, hmv, hmP, HKq, HL, HD⟩ := hrel
    subst hmv
    have hlen := HL.out.len
    rw [← HF.out] at hlen
    obtain ⟨nn, hnn⟩ : ∃ nn, nn = N.length := ⟨_, rfl⟩
    have HNn := Lib.hid hnn
    obtain ⟨na, nc, hnv, hna⟩ : ∃ na nc, u7 = .slice na nn nc ∧ (0 < nn → ∃ gb, na = some ⟨gb, 0, none⟩) := by
      rw [hnn]
      rcases HD.out.n1.2 with ⟨e, h0⟩ | ⟨gb, cap, cur, e, _⟩
      · exact ⟨none, 0, by rw [e, h0], fun h => by omega⟩
      · exact ⟨_, cap, e, fun _ => ⟨gb, rfl⟩⟩
    subst hnv
    rw [← hnn] at hlen
    by_cases hN : nn = 0
    · have hN0 : N = [] := List.length_eq_zero_iff.1 (by rw [← hnn]; exact hN)
      have hno := HL.out
      rw [hN0] at hno
      have hm0 := hno.dn
      have HRn := Lib.hid (HRes.out.2 (hno.none HZl.out))
      have HBf := Lib.hid (HB1.out.trans (HD.out.be.mono HB1.out.size))
      subst hN
      clear hno hm0 hN0 hna hlen hnn
      go_wp2_with fail
      go_ret
      exact ⟨-1, rfl, .inl ⟨HRn.out, rfl⟩, HBf.out⟩
    · have hN1 : 0 < nn := by omega
      obtain ⟨gb, rfl⟩ := hna hN1
      have hNF : nn ≤ 5040 := by omega
      have hm5 : m ≤ 5040 := by omega
      have HLen := Lib.hid hlen
      have HmP := Lib.hid hmP
      obtain ⟨wo, rfl⟩ : ∃ wo, wo = wr := ⟨wr, rfl⟩
      clear hnn hna hlen hN hmP
      go_wp2_with fail
      go_loopw [9, 10] (fun xv iv wr => ∃ (i : Nat) (X : List (List Int)) (xs : List Value) (d : List Int → Nat), iv = .int .i64 i ∧ i ≤ nn ∧ Hid (Lay n Ss z P N X d m i 0) ∧ Hid (DSt w1.heap.size wo.heap.size c g n w1 wr (.slice (some ⟨gb, 0, none⟩) nn nc) xv P N X ys xs)) (fun _ iv _ => nn - (intOf iv).toNat)
      case atStart => exact ⟨0, [], [], d, rfl, Nat.zero_le _, HL, HD⟩
      case round =>
        clear HL HD
        obtain ⟨i, X, xs, d, rfl, hi, HL, HD⟩ := hrel
        by_cases hli : i < nn
        · have hc1 := row_cell1 (xs := ys) (by rw [HD.out.nl]; exact HD.out.n1) (i := i) (by rw [HD.out.nl, ← HNn.out]; exact hli)
          have hy := HD.out.n2 i (by rw [← HNn.out]; exact hli)
          have hv := HL.out.bq.valid _ (lay_in (P := P) (X := X) (i := i) (by rw [← HNn.out]; exact hli))
          obtain ⟨q, hq⟩ : ∃ q, q = N.getD i [] := ⟨_, rfl⟩
          rw [← hq] at hy hv
          have HQ := Lib.hid hq
          have HQv := Lib.hid hv.1
          have HQl := Lib.hid hv.2
          obtain ⟨y, hyv⟩ : ∃ y, y = ys.getD i undef := ⟨_, rfl⟩
          rw [← hyv] at hc1 hy
          have HY := Lib.hid hy
          have HYg := Lib.hid hyv
          obtain ⟨zz, hzz⟩ : ∃ zz, zz = decide (q = z) := ⟨_, rfl⟩
          have HSm := Lib.hid (show Calls Try.prog 42 #[y, .slice za n zc] wr fun e w' => e = .returned (.bool zz) ∧ ∃ n, w' = wr.drewN n from by
            rw [hzz]
            exact same_any _ _ q z wr hy.sl (HK1.out.below HD.out.be) (by rw [hv.2]; omega) (by rw [HZl.out]; omega))
          have HCell := Lib.hid (show ∀ w', Below wr.heap.size wr w' → w'.cell? ⟨gb, i, none⟩ = some y from fun w' h => (h.cell (p := ⟨gb, i, none⟩) (World.block_lt_of_cell? wr _ hc1)).trans hc1)
          have HZz := Lib.hid hzz
          obtain ⟨ya, yc, hye, _⟩ := hy.sl
          rw [hv.2] at hye
          subst hye
          clear hy hv hq hyv hzz
          go_wp2_with fail
          refine HSm.out.mono ?_
          rintro e w5 ⟨rfl, j, rfl⟩
          have hb5 : Below wr.heap.size wr (wr.drewN j) := below_drewN' (Below.refl _ _) j
          have HD5 := Lib.hid (HD.out.below hb5)
          have HY5 := Lib.hid (HY.out.below hb5)
          generalize wr.drewN j = w5 at *
          clear hb5 HSm HCell hc1 HY HD
          cases zz with
          | true =>
            have HFd := Lib.hid (HL.out.found (i := i) (by rw [← HNn.out]; exact hli) (by rw [← HQ.out]; exact of_decide_eq_true HZz.out.symm))
            go_wp2_with fail
            go_ret
            exact ⟨m, rfl, .inr ⟨m, rfl, hm5, HRes.out.1 m HFd.out⟩, HB1.out.trans (HD5.out.be.mono HB1.out.size)⟩
          | false =>
            have HNe := Lib.hid (show N.getD i [] ≠ z by rw [← HQ.out]; exact of_decide_eq_false HZz.out.symm)
            clear HZz
            go_wp2_with fail
            go_loopw [9, 11] (fun xv kv wr => ∃ (k : Nat) (X : List (List Int)) (xs : List Value) (d : List Int → Nat), kv = .int .i64 k ∧ k ≤ ns ∧ Hid (Lay n Ss z P N X d m i k) ∧ Hid (DSt w1.heap.size wo.heap.size c g n w1 wr (.slice (some ⟨gb, 0, none⟩) nn nc) xv P N X ys xs)) (fun _ kv _ => ns - (intOf kv).toNat)
            case atStart => exact ⟨0, X, xs, d, rfl, Nat.zero_le _, HL, HD5⟩
            case round =>
              clear HL HD5
              obtain ⟨k, X, xs, d, rfl, hk, HL, HD⟩ := hrel
              by_cases hlk : k < ns
              · have hc1 := row_cell1 (xs := ys) (by rw [HD.out.nl]; exact HD.out.n1) (i := i) (by rw [HD.out.nl, ← HNn.out]; exact hli)
                rw [← HYg.out] at hc1
                have hy := HD.out.n2 i (by rw [← HNn.out]; exact hli)
                rw [← HQ.out, ← HYg.out] at hy
                have HCx := Lib.hid (show ∀ w', Below wr.heap.size wr w' → w'.cell? ⟨gb, i, none⟩ = some (.slice ya n yc) from fun w' h => (h.cell (p := ⟨gb, i, none⟩) (World.block_lt_of_cell? wr _ hc1)).trans hc1)
                have HY := Lib.hid hy
                obtain ⟨s0, g0, sy⟩ := HU.out k (by rw [← HNs.out]; exact hlk)
                have g1 := (HD.out.be.cell (p := ⟨bS, oS + k, none⟩) (World.block_lt_of_cell? w1 _ g0)).trans g0
                have sy1 := sy.below HD.out.be
                have hsm : Ss.getD k [] ∈ Ss := getD_mem (by rw [← HNs.out]; exact hlk)
                obtain ⟨sv, sl⟩ := HSv.out _ hsm
                obtain ⟨s, hs⟩ : ∃ s, s = Ss.getD k [] := ⟨_, rfl⟩
                rw [← hs] at sy1 sv sl
                have HSk := Lib.hid hs
                have HSv1 := Lib.hid sv
                have HSl1 := Lib.hid sl
                have HSy := Lib.hid sy1
                obtain ⟨va, vc, e1, _⟩ := sy1
                rw [sl] at e1
                subst e1
                have HCs := Lib.hid (show ∀ w', Below wr.heap.size wr w' → w'.cell? ⟨bS, oS + k, none⟩ = some (.slice va n vc) from fun w' h => (h.cell (p := ⟨bS, oS + k, none⟩) (World.block_lt_of_cell? wr _ g1)).trans g1)
                have HMv := Lib.hid (mulL_valid HQv.out sv (HQl.out.trans sl.symm))
                have HMl := Lib.hid ((length_mulL q s).trans HQl.out)
                clear hc1 hy g0 g1 sy hsm sv sl hs
                go_wp2_with fail
                refine wp_region_held_all (S := fun w' => Below wr.heap.size wr w') (by kernel_rfl) ?_
                have hS : Below wr.heap.size wr wr.drew := below_drewN' (Below.refl _ _) 1
                refine held_take (i := 0) (v := .slice (some ⟨gb, 0, none⟩) nn nc) rfl rfl (by kernel_rfl) (by kernel_rfl) (by kernel_rfl) (fun w' h => by go_simp) hS ?_
                refine held_take (i := 1) (v := .int .i64 i) rfl rfl (by kernel_rfl) (by kernel_rfl) (by kernel_rfl) (fun w' h => by go_simp) hS ?_
                refine held_take (i := 2) (v := .pointer (some ⟨gb, i, none⟩)) rfl rfl (by kernel_rfl) (by kernel_rfl) (by kernel_rfl) (fun w' h => by go_simp) hS ?_
                simp [Act.put]
                refine held_take (i := 3) (v := .slice ya n yc) rfl rfl (by kernel_rfl) (by kernel_rfl) (by kernel_rfl) (fun w' h => by have h1 := HCx.out w' h; go_simp) hS ?_
                refine held_take (i := 4) (v := .slice (some ⟨bS, oS, none⟩) ns sc) rfl rfl (by kernel_rfl) (by kernel_rfl) (by kernel_rfl) (fun w' h => by go_simp) hS ?_
                refine held_take (i := 5) (v := .int .i64 k) rfl rfl (by kernel_rfl) (by kernel_rfl) (by kernel_rfl) (fun w' h => by go_simp) hS ?_
                refine held_take (i := 6) (v := .pointer (some ⟨bS, oS + k, none⟩)) rfl rfl (by kernel_rfl) (by kernel_rfl) (by kernel_rfl) (fun w' h => by go_simp) hS ?_
                simp [Act.put]
                refine held_take (i := 7) (v := .slice va n vc) rfl rfl (by kernel_rfl) (by kernel_rfl) (by kernel_rfl) (fun w' h => by have h1 := HCs.out w' h; go_simp) hS ?_
                simp [Act.put]
                refine held_only (i := 8) rfl rfl (by kernel_rfl) (wp_call_any 40 Try.func40 (by kernel_rfl) rfl _ _ rfl #[.slice ya n yc, .slice va n vc] rfl ((refmul_any _ _ q s wr.drew (HY.out.below hS).sl (HSy.out.below hS) (by rw [HQl.out]; omega) (by rw [HSl1.out]; omega) (by rw [HSl1.out, ← HQl.out]; exact inR_of_valid HQv.out)).mono ?_))
                rintro e w5 ⟨v, rfl, hv, hb5⟩
                have hS5 : Below wr.heap.size wr w5 := hS.trans (hb5.mono hS.size)
                refine ⟨_, rfl, hS5, ?_⟩
                have hvW : Ow w1.heap.size w5 v (mulL q s) := hv.mono (Nat.le_trans HD.out.be.size hS.size)
                have HVs := Lib.hid hvW
                have HD5 := Lib.hid (HD.out.below hS5)
                obtain ⟨pa, pc, e1, _⟩ := hvW.sl
                rw [HMl.out] at e1
                subst e1
                simp [Act.put]
                refine held_take (i := 9) (v := .slice pa n pc) rfl rfl (by kernel_rfl) (by kernel_rfl) (by kernel_rfl) (fun w' h => by go_simp) hS5 ?_
                refine held_done (by kernel_rfl) ?_
                clear hS hS5 hv hb5 hvW HD HY HSy HCx HCs
                simp [Act.put]
                have HRk := Lib.hid (refrank_any (.slice pa n pc) (mulL q s) w5 HVs.out.sl (by rw [HMl.out]; exact h7))
                go_wp2_with fail
                refine HRk.out.mono ?_
                rintro e w6 ⟨rfl, j, rfl⟩
                have hb6 : Below w5.heap.size w5 (w5.drewN j) := below_drewN' (Below.refl _ _) j
                have HD6 := Lib.hid (HD5.out.below hb6)
                have HVs := Lib.hid (HVs.out.below hb6)
                clear hb6 HRk HD5
                generalize w5.drewN j = w6 at *
                obtain ⟨t, ht⟩ : ∃ t, t = mulL q s := ⟨_, rfl⟩
                have ha := HMv.out
                have hal := HMl.out
                rw [← ht] at ha hal HVs ⊢
                have hR := (unrL_rank ha).2
                rw [hal, ← HF.out] at hR
                obtain ⟨R, hR0⟩ : ∃ R, R = rankL t := ⟨_, rfl⟩
                rw [← hR0] at hR ⊢
                have hin := rks_mem HL.out.bq.valid ha hal
                rw [← hR0] at hin
                have hst := HD6.out.st
                have hmk := HD6.out.mrk
                rw [← HF.out] at hst hmk
                have k1 : w6.cell? ⟨c, 1, none⟩ = some (.slice (some ⟨g, 0, none⟩) F F) := by rw [hst.cell 1]; rfl
                have k2 : w6.cell? ⟨g, R, none⟩ = some (.bool (decide ((R : Int) ∈ rks (P ++ N ++ X)))) := by rw [hmk.cell R, mkm_get _ _ _ hR]
                have k3 := hmk.free R
                have HT := Lib.hid (show t = mulL (N.getD i []) (Ss.getD k []) by rw [← HQ.out, ← HSk.out]; exact ht)
                have HR0 := Lib.hid hR0
                by_cases hm : t ∈ P ++ N ++ X
                · rw [decide_eq_true (hin.2 hm)] at k2
                  have HL2 := Lib.hid (HL.out.has (i := i) (k := k) (by rw [← HNn.out]; exact hli) (by rw [← HNs.out]; exact hlk) HSv.out (by rw [← HT.out]; exact hm))
                  clear hm hin hst hmk ht hR0 ha hal HL
                  go_wp2_with fail
                  go_roundw
                  case rel => exact ⟨k + 1, X, xs, d, by go_num, by omega, HL2, HD6⟩
                  case measure => simp [intOf]; omega
                · rw [decide_eq_false (fun h => hm (hin.1 h))] at k2
                  have HL2 := Lib.hid (HL.out.add (x := t) (i := i) (k := k) (by rw [← HNn.out]; exact hli) (by rw [← HNs.out]; exact hlk) HSv.out HT.out hm)
                  have hxl : X.length ≤ 5040 := by
                    have := HL.out.len
                    rw [← HF.out] at this
                    omega
                  have hlL := HD6.out.lL.2
                  have hx1 := row_set (i := R) (u := .bool true) HD6.out.x1 HD6.out.mrk (by decide)
                  obtain ⟨xn, hxn⟩ : ∃ xn, xn = X.length := ⟨_, rfl⟩
                  rw [← hxn] at hxl hx1
                  have HXn := Lib.hid hxn
                  have HX1 := Lib.hid hx1
                  have hsz : (w6.setCell ⟨g, R, none⟩ (.bool true)).heap.size = w6.heap.size := by simp
                  have hc6 : ((w6.setCell ⟨g, R, none⟩ (.bool true)).alloc (.cells #[.slice pa n pc] 32)).cell? ((⟨w6.heap.size, 0, none⟩ : Addr).add 0) = some (.slice pa n pc) := by rw [← hsz]; exact cell_one_new _ _ _ 0 _ rfl
                  have HC6 := Lib.hid hc6
                  have HSz := Lib.hid hsz
                  clear hm hin hst hmk ht hR0 ha hal HL hxn hx1 hc6 hsz
                  go_wp2_with (at_builtin; go_loud (refine wpList_append_own _ rfl _ _ 22 rfl wo.heap.size 32 i1 (.slice none 0 0) 1 24 Try.underlying22 hq0 hq1 hq2 hq3 rfl (by decide) u9 xn xs rfl (HX1.out.alloc _) ⟨w6.heap.size, 0, none⟩ 1 1 [.slice pa n pc] rfl rfl (by rw [← HSz.out]; exact cell_one_new _ _ _) (by simp [Value.oneCell']) (by unfold maxLen; omega) (by omega) (by rw [World.size_alloc, HSz.out]; omega) ?_; intro v' w7 hown' hgrow _))
                  have HD7 := Lib.hid (show DSt w1.heap.size wo.heap.size c g n w1 w7 (.slice (some ⟨gb, 0, none⟩) nn nc) v' P N (X ++ [t]) ys (xs ++ [.slice pa n pc]) from by
                    rw [HR0.out] at hgrow
                    rw [HXn.out] at hown'
                    exact HD6.out.push HVs.out hown' hgrow)
                  clear hown' hgrow HD6 HVs
                  go_wp2
                  go_roundw
                  case rel => exact ⟨k + 1, X ++ [t], _, _, by go_num, by omega, HL2, HD7⟩
                  case measure => simp [intOf]; omega
              · have hke : k = Ss.length := by rw [← HNs.out]; omega
                have HL2 := Lib.hid (show Lay n Ss z P N X d m (i + 1) 0 from Lay.next (by rw [← hke]; exact HL.out) (by rw [← HNn.out]; exact hli) HNe.out)
                clear hke HL
                go_wp2_with fail
                go_roundw
                case rel => exact ⟨i + 1, X, xs, d, by go_num, by omega, HL2, HD⟩
                case measure => simp [intOf]; omega
        · have hie : i = N.length := by rw [← HNn.out]; omega
          have HL2 := Lib.hid (show Lay n Ss z (P ++ N) X [] d (m + 1) 0 0 from Lay.layer (by rw [← hie]; exact HL.out))
          have HD2 := Lib.hid HD.out.layer
          have HmP2 := Lib.hid (show m + 1 ≤ (P ++ N).length by rw [List.length_append, ← HNn.out]; have := HmP.out; omega)
          clear hie HL HD
          go_wp2_with fail
          go_roundg (F + 1 - (P ++ N).length)
          case rel => exact ⟨P ++ N, X, xs, d, m + 1, by go_num, HmP2.out, Lib.hid rfl, HL2, HD2⟩
          case measure => rw [HKq.out, List.length_append, ← HNn.out]; have := HLen.out; omega
end Go.Proofs.Ytjnjhfificpbbaa
