/- The reference's Series and SameAll. -/
import Derived.Test.YtdcilefiacohnaaRCom
namespace Go.Proofs.Ytdcilefiacohnaa
open Go Go.RowKit

/-- a list of permutations stands where what has turned is a row of another type -/
theorem Owp.other {B : Nat} {w w' : World} {v : Value} {ps : List (List Int)} {row : Option Nat} {t : TypeId} (h : Owp B w v ps) (hg : w.grownBy w' row) (ht : ∀ b, row = some b → ∃ cur, w.heap[b]? = some (.cells cur t (0, 0))) (h1 : 32 ≠ t) (h2 : 3 ≠ t) : Owp B w' v ps := by
  obtain ⟨vs, a, b, c⟩ := h
  exact ⟨vs, a, row_other b hg ht h1, fun i hi => row_other (c i hi) hg ht h2⟩
theorem Owp.alloc {B : Nat} {w : World} {v : Value} {ps : List (List Int)} (h : Owp B w v ps) (o : Obj) : Owp B (w.alloc o) v ps := by
  obtain ⟨vs, a, b, c⟩ := h
  exact ⟨vs, a, b.alloc o, fun i hi => World.ownsRow.alloc (c i hi) o⟩
theorem Owp.below' {B : Nat} {w w' : World} {v : Value} {ps : List (List Int)} (h : Owp B w v ps) (hb : Below w.heap.size w w') : Owp B w' v ps := by
  obtain ⟨vs, a, b, c⟩ := h
  exact ⟨vs, a, row_below b hb, fun i hi => (c i hi).below hb⟩
/-- a list that came in, or one of the call's own -/
def ElS (w wr : World) (x : Value) (q : List (List Int)) : Prop := Sps w x q ∨ Owp w.heap.size wr x q
theorem ElS.sps {w wr : World} {x : Value} {q : List (List Int)} (h : ElS w wr x q) (hb : Below w.heap.size w wr) : Sps wr x q := by
  rcases h with h | h
  · exact h.below hb
  · exact h.sps
theorem ElS.below {w wr w' : World} {x : Value} {q : List (List Int)} (h : ElS w wr x q) (hb : Below wr.heap.size wr w') : ElS w w' x q := by
  rcases h with h | h
  · exact .inl h
  · exact .inr (h.below' hb)
theorem ElS.other {w wr w' : World} {x : Value} {q : List (List Int)} {o : Obj} {row : Option Nat} (h : ElS w wr x q) (hg : (wr.alloc o).grownBy w' row) (ht : ∀ b, row = some b → ∃ cur, (wr.alloc o).heap[b]? = some (.cells cur 22 (0, 0))) : ElS w w' x q := by
  rcases h with h | h
  · exact .inl h
  · exact .inr ((h.alloc o).other hg ht (by decide) (by decide))

/-- each but the first is the derived group of the one before it, and smaller -/
def ChR (n : Nat) : List (List (List Int)) → Prop
  | [] => True
  | [_] => True
  | q :: d :: r => Lists n d (Gen (comms (pks q))) ∧ d.length < q.length ∧ ChR n (d :: r)
theorem ChR.snoc {n : Nat} {q d : List (List Int)} (hd : Lists n d (Gen (comms (pks q)))) (hl : d.length < q.length) : ∀ {qs : List (List (List Int))}, ChR n (qs ++ [q]) → ChR n (qs ++ [q] ++ [d])
  | [], _ => ⟨hd, hl, trivial⟩
  | [_], h => ⟨h.1, h.2.1, hd, hl, trivial⟩
  | _ :: m :: qs, h => ⟨h.1, h.2.1, ChR.snoc (qs := m :: qs) hd hl h.2.2⟩
/-- the derived group, as a list -/
theorem der_grp {q d : List (List Int)} {n : Nat} (hq : IsGrp q) (hn : (q.getD 0 []).length = n) (hd : Lists n d (Gen (comms (pks q)))) : IsGrp d ∧ (d.getD 0 []).length = n ∧ (∀ a, a ∈ pks d ↔ Gen (comms (pks q)) a) ∧ d.length ≤ q.length ∧ (d.length = q.length → ∀ a, a ∈ pks q ↔ Gen (comms (pks q)) a) := by
  have hv0 := (validL_iff _).1 (hq.1.2.2 0 hq.1.1).1
  rw [hn] at hv0
  have hec : Els (comms (pks q)) := fun x hx => by
    obtain ⟨a, b, ha, hb, rfl⟩ := mem_comms.1 hx
    exact (hq.1.els a ha).comm (hq.1.els b hb)
  have hsub : ∀ a, Gen (comms (pks q)) a → a ∈ pks q := fun a ha => hq.2.2 a (Gen.sub hq.1.els (fun x hx => by
    obtain ⟨a, b, ha, hb, rfl⟩ := mem_comms.1 hx
    exact Gen.comm hq.1.els (Gen.of_mem hq.1.els ha) (Gen.of_mem hq.1.els hb)) ha)
  obtain ⟨h1, h2, h3⟩ := hd.grp hv0.1 hv0.2.1 hec fun a ha => by
    obtain ⟨p, hp, rfl⟩ := List.mem_map.1 (hsub a ha)
    obtain ⟨v, l⟩ := hq.1.mem hp
    exact ⟨p, v, l.trans hn, rfl⟩
  have hnd := pks_nodup h1.1 h1.2.1
  have hle := nodup_le hnd (fun x hx => hsub x ((h3 x).1 hx))
  rw [pks_len, pks_len] at hle
  refine ⟨h1, h2, h3, hle, fun he a => ⟨fun ha => ?_, hsub a⟩⟩
  exact (h3 a).1 (nodup_full hnd (fun x hx => hsub x ((h3 x).1 hx)) (by rw [pks_len, pks_len]; omega) ha)

/-- what the reference's Series of a group is -/
def SerR (ps : List (List Int)) (qs : List (List (List Int))) : Prop := ∃ qs' q, qs = qs' ++ [q] ∧ ChR (ps.getD 0 []).length qs ∧ qs.head? = some ps ∧ IsGrp q ∧ (q.getD 0 []).length = (ps.getD 0 []).length ∧ ∃ d, Lists (ps.getD 0 []).length d (Gen (comms (pks q))) ∧ d.length = q.length

set_option maxRecDepth 100000 in
set_option maxHeartbeats 4000000 in
theorem refSeries_any (v : Value) (ps : List (List Int)) (w : World) (h : Sps w v ps) (hg : IsGrp ps) :
    Calls Try.prog 30 #[v] w fun e w' => ∃ x xs qs, e = .returned x ∧ VRow w.heap.size w' x xs ∧ xs.length = qs.length ∧ (∀ i, i < qs.length → ElS w w' (xs.getD i undef) (qs.getD i [])) ∧ SerR ps qs ∧ qs.length ≤ 5041 ∧ Below w.heap.size w w' := by
  obtain ⟨i0, hi, hz0, hz1, hz2⟩ := info_parts infoPs
  have HH := Lib.hid h
  have HG := Lib.hid hg
  obtain ⟨a, cap, rfl, _⟩ := h
  obtain ⟨m, hm⟩ : ∃ m, m = ps.length := ⟨_, rfl⟩
  have HM := Lib.hid hm
  have hm5 : m ≤ 5040 := by rw [hm]; exact hg.1.2.1
  rw [← hm] at HH ⊢
  clear hg hm
  go_enter Try.func30, Try.ntmps30
  go_wp2_with fail
  have B0 := Lib.hid ((Below.refl w.heap.size w).alloc (Nat.le_refl _) (.cells #[.slice a m cap] 22))
  have R0 := Lib.hid (show VRow w.heap.size (w.alloc (.cells #[.slice a m cap] 22)) (.slice (some ⟨w.heap.size, 0, none⟩) 1 1) [.slice a m cap] from
    ⟨rfl, .inr ⟨w.heap.size, 1, _, rfl, Nat.le_refl _, Blk.new w _ _, Nat.le_refl _, by unfold maxLen; omega, rfl, rfl⟩⟩)
  generalize w.alloc (.cells #[.slice a m cap] 22) = w1 at *
  go_loopw [0, 3] (fun tv ov wr => ∃ q qs xs, Hid (∃ la lc, tv = .slice la q.length lc) ∧ Hid (ElS w wr tv q) ∧ Hid (VRow w.heap.size wr ov xs) ∧ Hid (xs.length = (qs ++ [q]).length) ∧ Hid (∀ i, i < (qs ++ [q]).length → ElS w wr (xs.getD i undef) ((qs ++ [q]).getD i [])) ∧ Hid (ChR (ps.getD 0 []).length (qs ++ [q])) ∧ Hid ((qs ++ [q]).head? = some ps) ∧ Hid (IsGrp q ∧ (q.getD 0 []).length = (ps.getD 0 []).length) ∧ Hid (qs.length + q.length ≤ 5040) ∧ Hid (Below w.heap.size w wr)) (fun tv _ _ => lenOf tv)
  case atStart => exact ⟨ps, [], _, Lib.hid ⟨a, cap, by rw [← HM.out]⟩, Lib.hid (.inl HH.out), R0, Lib.hid rfl, Lib.hid (fun i hi => by
    have e : i = 0 := by simpa using hi
    subst e
    exact .inl HH.out), Lib.hid trivial, Lib.hid rfl, Lib.hid ⟨HG.out, rfl⟩, Lib.hid (by simp; rw [← HM.out]; exact hm5), B0⟩
  case round =>
    clear R0 B0
    obtain ⟨q, qs, xs, HT, HE, HR, HL, HA, HC, HHd, HQ, HN, HB⟩ := hrel
    obtain ⟨la, lc, rfl⟩ := HT.out
    obtain ⟨l, hl⟩ : ∃ l, l = q.length := ⟨_, rfl⟩
    rw [← hl] at HE HT ⊢
    have HLq := Lib.hid hl
    clear hl
    go_wp2_with fail
    refine (refDer_any _ q _ (HE.out.sps HB.out) HQ.out.1.1).mono ?_
    rintro e w2 ⟨y, d, rfl, ho, hd, hb⟩
    rw [HQ.out.2] at hd
    obtain ⟨g1, g2, g3, g4, g5⟩ := der_grp HQ.out.1 HQ.out.2 hd
    rw [← HLq.out] at g4
    have HO := Lib.hid (ho.mono HB.out.size)
    have HD := Lib.hid hd
    have HGd := Lib.hid (show IsGrp d ∧ (d.getD 0 []).length = (ps.getD 0 []).length from ⟨g1, g2⟩)
    have HB2 := Lib.hid (HB.out.trans (hb.mono HB.out.size))
    have HA2 := Lib.hid (show ∀ i, i < (qs ++ [q]).length → ElS w w2 (xs.getD i undef) ((qs ++ [q]).getD i []) from fun i hi => (HA.out i hi).below hb)
    have HR2 := Lib.hid (show VRow w.heap.size w2 _ xs from row_below HR.out hb)
    obtain ⟨ya, yc, rfl, _⟩ := ho.sps
    obtain ⟨ld, hld⟩ : ∃ ld, ld = d.length := ⟨_, rfl⟩
    have HLd := Lib.hid hld
    rw [← hld] at g4 HO ⊢
    clear ho hd hb hld g1 g2 g3 g5 HA HR
    by_cases heq : ld = l
    · have HSr := Lib.hid (show SerR ps (qs ++ [q]) from ⟨qs, q, rfl, HC.out, HHd.out, HQ.out.1, HQ.out.2, d, HD.out, by rw [← HLd.out, ← HLq.out]; exact heq⟩)
      go_wp2_with fail
      go_ret
      exact ⟨_, xs, _, rfl, HR2.out, HL.out, HA2.out, HSr.out, by have := HN.out; simp; omega, HB2.out⟩
    · have hlt : ld < l := by omega
      have HC2 := Lib.hid (HC.out.snoc HD.out (by rw [← HLd.out, ← HLq.out]; exact hlt))
      have hxl : xs.length ≤ 5041 := by
        have h1 := HL.out
        have h2 := HN.out
        simp at h1; omega
      have hsw := HB2.out.size
      have HRw := Lib.hid HR2.out
      have hR2 : w2.ownsRow w.heap.size 22 1 u3 xs.length xs := HR2.out
      clear HC HR2
      go_wp2_with (at_builtin; go_loud (refine wpList_append_own _ rfl _ _ 33 rfl w.heap.size 22 i0 (.slice none 0 0) 1 24 Try.underlying33 hi hz0 hz1 hz2 rfl (by decide) u3 xs.length xs rfl (hR2.alloc _) ⟨w2.heap.size, 0, none⟩ 1 1 [.slice ya ld yc] rfl rfl (cell_one_new _ _ _) (by simp [Value.oneCell']) (by unfold maxLen; omega) (by omega) (by simp; omega) ?_; intro v' w3 hown' hgrow _))
      have ht := row_typ (hR2.alloc (.cells #[.slice ya ld yc] 22))
      have TR := Lib.hid (show VRow w.heap.size w3 v' (xs ++ [.slice ya ld yc]) from by
        unfold VRow
        rw [List.length_append]
        exact hown')
      have TA := Lib.hid (show ∀ i, i < (qs ++ [q] ++ [d]).length → ElS w w3 ((xs ++ [Value.slice ya ld yc]).getD i undef) ((qs ++ [q] ++ [d]).getD i []) from fun i hi => by
        rw [List.length_append] at hi
        simp only [List.length_cons, List.length_nil] at hi
        have hl := HL.out
        by_cases e : i < (qs ++ [q]).length
        · have e1 : (xs ++ [Value.slice ya ld yc]).getD i undef = xs.getD i undef := by simp [List.getD_eq_getElem?_getD, List.getElem?_append_left (show i < xs.length by omega)]
          have e2 : (qs ++ [q] ++ [d]).getD i [] = (qs ++ [q]).getD i [] := by rw [List.getD_eq_getElem?_getD, List.getElem?_append_left e, ← List.getD_eq_getElem?_getD]
          rw [e1, e2]; exact (HA2.out i e).other hgrow ht
        · have e0 : i = (qs ++ [q]).length := by omega
          have e1 : (xs ++ [Value.slice ya ld yc]).getD i undef = .slice ya ld yc := by rw [e0, ← hl]; simp
          have e2 : (qs ++ [q] ++ [d]).getD i [] = d := by rw [e0]; simp
          rw [e1, e2]; exact ElS.other (.inr HO.out) hgrow ht)
      have TE := Lib.hid (show ElS w w3 (.slice ya ld yc) d from ElS.other (.inr HO.out) hgrow ht)
      have TB := Lib.hid ((HB2.out.alloc hsw (.cells #[.slice ya ld yc] 22)).grown hgrow (by simp; omega) (fun r e => (hR2.lt r e).1))
      clear hown' hgrow hR2 ht
      go_wp2
      go_roundw
      case rel => exact ⟨d, qs ++ [q], _, Lib.hid ⟨ya, yc, by rw [HLd.out]⟩, TE, TR, Lib.hid (by rw [List.length_append, HL.out]; simp), TA, HC2, Lib.hid (by have := HHd.out; rw [List.head?_append, this]; rfl), HGd, Lib.hid (by have := HN.out; rw [List.length_append, ← HLd.out]; rw [← HLq.out] at this; simp; omega), TB⟩
      case measure => simp [lenOf]; omega

/-- v is a slice of lists of permutations that reads as qs -/
def Spss (w : World) (v : Value) (qs : List (List (List Int))) : Prop :=
  ∃ (a : Option Addr) (cap : Nat), v = .slice a qs.length cap ∧
    (qs = [] ∨ ∃ b off, a = some ⟨b, off, none⟩ ∧ ∀ i, i < qs.length → ∃ x, w.cell? ⟨b, off + i, none⟩ = some x ∧ Sps w x (qs.getD i []))
theorem Spss.below {w w' : World} {v : Value} {qs : List (List (List Int))} (h : Spss w v qs) (hb : Below w.heap.size w w') : Spss w' v qs := by
  obtain ⟨a, cap, rfl, h⟩ := h
  refine ⟨a, cap, rfl, ?_⟩
  rcases h with h | ⟨b, off, rfl, h⟩
  · exact .inl h
  · refine .inr ⟨b, off, rfl, fun i hi => ?_⟩
    obtain ⟨x, h1, h2⟩ := h i hi
    exact ⟨x, (hb.cell (p := ⟨b, off + i, none⟩) (World.block_lt_of_cell? w _ h1)).trans h1, h2.below hb⟩
theorem VRow.spss {B : Nat} {w : World} {v : Value} {xs : List Value} {qs : List (List (List Int))} (h : VRow B w v xs) (hl : xs.length = qs.length) (ha : ∀ i, i < qs.length → Sps w (xs.getD i undef) (qs.getD i [])) : Spss w v qs := by
  have h0 := h
  rcases h.2 with ⟨e, h1⟩ | ⟨g, cap, cur, e, _⟩
  · exact ⟨none, 0, by rw [e, ← hl, h1], .inl (List.length_eq_zero_iff.1 (by omega))⟩
  · subst e
    refine ⟨_, cap, by rw [hl], .inr ⟨g, 0, rfl, fun i hi => ⟨xs.getD i undef, ?_, ha i hi⟩⟩⟩
    rw [Nat.zero_add, World.ownsRow.cellAt h0 i (by omega)]
    simp [show i < xs.length by omega]
/-- lists of lists that are small enough to be compared -/
def Small3 (qs : List (List (List Int))) : Prop := ∀ i, i < qs.length → (qs.getD i []).length ≤ 1000000 ∧ ∀ k, k < (qs.getD i []).length → ((qs.getD i []).getD k []).length ≤ 1000000

set_option maxRecDepth 100000 in
set_option maxHeartbeats 4000000 in
theorem refSameAll_any (u v : Value) (ps qs : List (List (List Int))) (w : World) (h1 : Spss w u ps) (h2 : Spss w v qs) (hn : ps.length ≤ 1000000) (hp : Small3 ps) (hq : Small3 qs) :
    Calls Try.prog 31 #[u, v] w fun e w' => ∃ r, e = .returned (.bool r) ∧ Says r (ps = qs) ∧ Below w.heap.size w w' := by
  obtain ⟨a1, c1, rfl, h1⟩ := h1
  obtain ⟨a2, c2, rfl, h2⟩ := h2
  obtain ⟨n, hn0⟩ : ∃ n, n = ps.length := ⟨_, rfl⟩
  obtain ⟨m, hm0⟩ : ∃ m, m = qs.length := ⟨_, rfl⟩
  have HN := Lib.hid hn0
  have HM := Lib.hid hm0
  have HX := Lib.hid hp
  have HY := Lib.hid hq
  rw [← hn0] at hn
  rw [← hn0, ← hm0]
  have D : ((n : Int) != (m : Int)) = !decide (n = m) := by
    by_cases e : n = m <;> simp [e]
    omega
  by_cases hlen : n = m
  · rw [decide_eq_true hlen] at D
    have HLn := Lib.hid hlen
    have H1 := Lib.hid h1
    have H2 := Lib.hid h2
    clear h1 h2 hp hq hn0 hm0 hlen
    go_enter Try.func31, Try.ntmps31
    go_wp2_with fail
    go_loopw [5] (fun i wr => ∃ k : Nat, i = .int .i64 k ∧ k ≤ n ∧ Hid (∀ i, i < k → ps.getD i [] = qs.getD i []) ∧ Hid (Below w.heap.size w wr)) (fun i _ => n - (intOf i).toNat)
    case atStart => exact ⟨0, rfl, Nat.zero_le _, Lib.hid (fun i hi => by omega), Lib.hid (Below.refl _ _)⟩
    case round =>
      obtain ⟨k, rfl, hk, HE, HB⟩ := hrel
      by_cases hlt : k < n
      · have hlm : k < m := by have := HLn.out; omega
        rcases H1.out with h1 | ⟨b1, o1, rfl, h1⟩
        · have := HN.out; rw [h1] at this; simp at this; omega
        rcases H2.out with h2 | ⟨b2, o2, rfl, h2⟩
        · have := HM.out; rw [h2] at this; simp at this; omega
        obtain ⟨x, g1, s1⟩ := h1 k (by rw [← HN.out]; exact hlt)
        obtain ⟨y, g2, s2⟩ := h2 k (by rw [← HM.out]; exact hlm)
        have hb1 : b1 < w.heap.size := World.block_lt_of_cell? w _ g1
        have hb2 : b2 < w.heap.size := World.block_lt_of_cell? w _ g2
        obtain ⟨lx, lx'⟩ := HX.out k (by rw [← HN.out]; exact hlt)
        obtain ⟨ly, ly'⟩ := HY.out k (by rw [← HM.out]; exact hlm)
        have cx : ∀ w', Below w.heap.size w w' → w'.cell? ⟨b1, o1 + k, none⟩ = some x := fun w' h => (h.cell (p := ⟨b1, o1 + k, none⟩) hb1).trans g1
        have cy : ∀ w', Below w.heap.size w w' → w'.cell? ⟨b2, o2 + k, none⟩ = some y := fun w' h => (h.cell (p := ⟨b2, o2 + k, none⟩) hb2).trans g2
        have HS1 := Lib.hid s1
        have HS2 := Lib.hid s2
        have CX := Lib.hid cx
        have CY := Lib.hid cy
        have LX := Lib.hid lx
        have LX' := Lib.hid lx'
        have LY' := Lib.hid ly'
        have HLt := Lib.hid hlt
        obtain ⟨xa, xc, rfl, _⟩ := s1
        obtain ⟨ya, yc, rfl, _⟩ := s2
        obtain ⟨nx, hnx⟩ : ∃ nx, nx = (ps.getD k []).length := ⟨_, rfl⟩
        obtain ⟨ny, hny⟩ : ∃ ny, ny = (qs.getD k []).length := ⟨_, rfl⟩
        rw [← hnx] at HS1 CX
        rw [← hny] at HS2 CY
        clear h1 h2 g1 g2 cx cy lx lx' ly ly' hnx hny
        go_wp2_with fail
        refine wp_region_held_all (S := fun w' => Below w.heap.size w w') (by kernel_rfl) ?_
        have hS : Below w.heap.size w wr.drew := below_drewN' HB.out 1
        refine held_take (i := 0) (v := .slice (some ⟨b1, o1, none⟩) n c1) rfl rfl (by kernel_rfl) (by kernel_rfl) (by kernel_rfl) (fun w' h => by go_simp) hS ?_
        refine held_take (i := 1) (v := .int .i64 k) rfl rfl (by kernel_rfl) (by kernel_rfl) (by kernel_rfl) (fun w' h => by go_simp) hS ?_
        refine held_take (i := 2) (v := .pointer (some ⟨b1, o1 + k, none⟩)) rfl rfl (by kernel_rfl) (by kernel_rfl) (by kernel_rfl) (fun w' h => by go_simp) hS ?_
        refine held_take (i := 3) (v := .slice xa nx xc) rfl rfl (by kernel_rfl) (by kernel_rfl) (by kernel_rfl) (fun w' h => by have h1 := CX.out w' h; go_simp) hS ?_
        simp [Act.put]
        refine held_take (i := 4) (v := .slice (some ⟨b2, o2, none⟩) m c2) rfl rfl (by kernel_rfl) (by kernel_rfl) (by kernel_rfl) (fun w' h => by go_simp) hS ?_
        refine held_take (i := 5) (v := .int .i64 k) rfl rfl (by kernel_rfl) (by kernel_rfl) (by kernel_rfl) (fun w' h => by go_simp) hS ?_
        refine held_take (i := 6) (v := .pointer (some ⟨b2, o2 + k, none⟩)) rfl rfl (by kernel_rfl) (by kernel_rfl) (by kernel_rfl) (fun w' h => by go_simp) hS ?_
        refine held_take (i := 7) (v := .slice ya ny yc) rfl rfl (by kernel_rfl) (by kernel_rfl) (by kernel_rfl) (fun w' h => by have h1 := CY.out w' h; go_simp) hS ?_
        simp [Act.put]
        refine held_only (i := 8) rfl rfl (by kernel_rfl) (wp_call_any 18 Try.func18 (by kernel_rfl) rfl _ _ rfl #[.slice xa nx xc, .slice ya ny yc] rfl ((refSame_any _ _ (ps.getD k []) (qs.getD k []) wr.drew (HS1.out.below hS) (HS2.out.below hS) LX.out LX'.out LY'.out).mono ?_))
        rintro e w5 ⟨r, rfl, hr, hb5⟩
        have hS5 : Below w.heap.size w w5 := hS.trans (hb5.mono hS.size)
        refine ⟨_, rfl, hS5, ?_⟩
        have HR := Lib.hid hr
        clear hr hb5
        simp [Act.put]
        refine held_take (i := 9) (v := .bool (!r)) rfl rfl (by kernel_rfl) (by kernel_rfl) (by kernel_rfl) (fun w' h => by go_simp) hS5 ?_
        refine held_done (by kernel_rfl) ?_
        have HS5 := Lib.hid hS5
        clear hS hS5
        simp [Act.put]
        cases r with
        | true =>
          have HE2 := Lib.hid (show ∀ i, i < k + 1 → ps.getD i [] = qs.getD i [] from fun i hi => by
            by_cases e : i = k
            · subst e; exact HR.out.1 rfl
            · exact HE.out i (by omega))
          go_wp2_with fail
          go_roundw
          case rel => exact ⟨k + 1, by go_num, by omega, HE2, HS5⟩
          case measure => simp [intOf]; omega
        | false =>
          have HSy := Lib.hid (show Says false (ps = qs) from Says.no fun e => by
            have := HR.out.2 (by rw [e])
            cases this)
          go_wp2_with fail
          go_ret
          exact ⟨false, rfl, HSy.out, HS5.out⟩
      · have HSy := Lib.hid (show Says true (ps = qs) from Says.yes (by
          apply List.ext_getElem (by rw [← HN.out, ← HM.out]; exact HLn.out)
          intro i h1 h2
          have := HE.out i (by rw [← HN.out] at h1; omega)
          simpa [h1, h2] using this))
        go_wp2_with fail
        go_ret
        exact ⟨true, rfl, HSy.out, HB.out⟩
  · rw [decide_eq_false hlen] at D
    have HSy := Lib.hid (show Says false (ps = qs) from Says.no fun e => hlen (by rw [hn0, hm0, e]))
    clear h1 h2 hp hq hn0 hm0 hlen
    go_enter Try.func31, Try.ntmps31
    go_wp2_with fail
    go_ret
    exact ⟨false, rfl, HSy.out, Below.refl _ _⟩

/-- the laws' closed: the group that the generators generate, if there are at most 360 elements -/
def ClosedOf (gs ps : List (List Int)) : Prop := GenP gs ∧ IsGrp ps ∧ ps.length ≤ 360 ∧ (ps.getD 0 []).length = (gs.getD 0 []).length ∧ Lists (gs.getD 0 []).length ps (Gen (pks gs)) ∧ ∀ a, a ∈ pks ps ↔ Gen (pks gs) a
set_option maxRecDepth 100000 in
set_option maxHeartbeats 2000000 in
theorem closed_any (v : Value) (gs : List (List Int)) (w : World) (h : InPs w v gs) :
    Calls Try.prog 28 #[v] w fun e w' => Below w.heap.size w w' ∧ ((∃ a l c, e = .returned (.tuple #[.slice a l c, .bool false])) ∨ ∃ x ps, e = .returned (.tuple #[x, .bool true]) ∧ Owp w.heap.size w' x ps ∧ ClosedOf gs ps ∧ ∀ i, i < gs.length → (gs.getD i []).length ≤ 100) := by
  have HI := Lib.hid h
  obtain ⟨⟨a, cap, rfl, _⟩, _, _⟩ := h
  obtain ⟨m, hm⟩ : ∃ m, m = gs.length := ⟨_, rfl⟩
  have HM := Lib.hid hm
  rw [← hm] at HI ⊢
  clear hm
  go_enter Try.func28, Try.ntmps28
  go_wp2_with fail
  refine (few_any _ gs 30 _ HI.out (by decide)).mono ?_
  rintro e w1 ⟨r, rfl, hs, rfl⟩
  have HS := Lib.hid hs
  clear hs
  cases r with
  | false =>
    clear HS
    go_wp2_with fail
    go_ret2
    exact ⟨Below.refl _ _, .inl ⟨_, _, _, rfl⟩⟩
  | true =>
    have HF := Lib.hid (HS.out.1 rfl)
    have HX := Lib.hid (show ∀ i, i < gs.length → (gs.getD i []).length ≤ 1000000 from fun i hi => Nat.le_trans (HF.out.2 i hi) (by decide))
    clear HS
    go_wp2_with fail
    refine (refGens_any _ gs _ HI.out.1 HX.out).mono ?_
    rintro e w2 ⟨r, rfl, hs, hb2⟩
    have HS := Lib.hid hs
    have HB2 := Lib.hid hb2
    have HI2 := Lib.hid (HI.out.1.below hb2)
    clear hs hb2
    cases r with
    | false =>
      clear HS
      go_wp2_with fail
      go_ret2
      exact ⟨HB2.out, .inl ⟨_, _, _, rfl⟩⟩
    | true =>
      have HG := Lib.hid (HS.out.1 rfl)
      clear HS
      go_wp2_with fail
      refine (refClose_any _ gs _ HI2.out HG.out).mono ?_
      rintro e w3 ⟨x, s, rfl, ho, hmem, hb3⟩
      have HB3 := Lib.hid (HB2.out.trans (hb3.mono HB2.out.size))
      have hv0 := (validL_iff _).1 (HG.out.2.2 0 HG.out.1).1
      obtain ⟨q, hq⟩ : ∃ q, q = rl (gs.getD 0 []).length s := ⟨_, rfl⟩
      have hL : Lists (gs.getD 0 []).length q (Gen (pks gs)) := ⟨s, hq, hmem⟩
      rw [← hq] at ho
      have hgr := hL.grp hv0.1 hv0.2.1 HG.out.els (fun a ha => gen_pk HG.out ha)
      have HO := Lib.hid (ho.mono HB2.out.size)
      have HL := Lib.hid hL
      have HGr := Lib.hid hgr
      have hl5 : q.length ≤ 5040 := hgr.1.1.2.1
      obtain ⟨xa, xc, rfl, _⟩ := ho.sps
      obtain ⟨l, hl⟩ : ∃ l, l = q.length := ⟨_, rfl⟩
      have HLq := Lib.hid hl
      rw [← hl] at HO hl5 ⊢
      clear ho hmem hb3 hv0 hq hL hgr hl
      by_cases h360 : l ≤ 360
      · have d1 : decide ((l : Int) ≤ 360) = true := decide_eq_true (by omega)
        go_wp2_with fail
        go_ret2
        exact ⟨HB3.out, .inr ⟨_, q, rfl, HO.out, ⟨HG.out, HGr.out.1, by rw [← HLq.out]; exact h360, HGr.out.2.1, HL.out, HGr.out.2.2⟩, by rw [HM.out]; exact HF.out.2⟩⟩
      · have d1 : decide ((l : Int) ≤ 360) = false := decide_eq_false (by omega)
        go_wp2_with fail
        go_ret2
        exact ⟨HB3.out, .inl ⟨_, _, _, rfl⟩⟩
end Go.Proofs.Ytdcilefiacohnaa
