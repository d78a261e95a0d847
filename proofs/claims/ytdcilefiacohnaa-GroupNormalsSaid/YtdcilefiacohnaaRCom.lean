/- The reference's Commutators and Derived; lists by what is in them. -/
import Derived.Test.YtdcilefiacohnaaRVal
namespace Go.Proofs.Ytdcilefiacohnaa
open Go Go.RowKit

/-- q lists the permutations of n points whose elements are in P, in their order -/
def Lists (n : Nat) (q : List (List Int)) (P : List Int → Prop) : Prop := ∃ s, q = rl n s ∧ ∀ p, validL p = true → p.length = n → ((rankL p : Int) ∈ s ↔ P (pk7 p))
theorem Lists.mem {n : Nat} {q : List (List Int)} {P : List Int → Prop} (h : Lists n q P) (h1 : 1 ≤ n) (h7 : n ≤ 7) (p : List Int) : p ∈ q ↔ validL p = true ∧ p.length = n ∧ P (pk7 p) := by
  obtain ⟨s, rfl, hs⟩ := h
  rw [rl_mem h1 h7]
  constructor
  · rintro ⟨a, b, c⟩; exact ⟨a, b, (hs p a b).1 c⟩
  · rintro ⟨a, b, c⟩; exact ⟨a, b, (hs p a b).2 c⟩
theorem Lists.len {n : Nat} {q : List (List Int)} {P : List Int → Prop} (h : Lists n q P) : q.length ≤ fact n := by
  obtain ⟨s, rfl, _⟩ := h; exact rl_count s
theorem Lists.get {n : Nat} {q : List (List Int)} {P : List Int → Prop} (h : Lists n q P) {i : Nat} (hi : i < q.length) : (q.getD i []).length = n := by
  obtain ⟨s, rfl, _⟩ := h
  exact rl_len s _ (by rw [List.getD_eq_getElem?_getD, List.getElem?_eq_getElem hi]; exact List.getElem_mem hi)
theorem Lists.congr {n : Nat} {q : List (List Int)} {P P' : List Int → Prop} (h : Lists n q P) (he : ∀ a, P a ↔ P' a) : Lists n q P' := by
  obtain ⟨s, e, hs⟩ := h
  exact ⟨s, e, fun p a b => (hs p a b).trans (he _)⟩
theorem Lists.uniq {n : Nat} {q q' : List (List Int)} {P P' : List Int → Prop} (h : Lists n q P) (h' : Lists n q' P') (he : ∀ a, P a ↔ P' a) (h1 : 1 ≤ n) (h7 : n ≤ 7) : q = q' := by
  obtain ⟨s, rfl, hs⟩ := h
  obtain ⟨s', rfl, hs'⟩ := h'
  unfold rl
  congr 1
  apply List.filter_congr
  intro r hr
  have hr' := List.mem_range.1 hr
  have e := hs (unrL n r) (unrL_valid h1 h7 hr') (len_unrL n r)
  have e' := hs' (unrL n r) (unrL_valid h1 h7 hr') (len_unrL n r)
  rw [rank_unrL hr'] at e e'
  exact decide_eq_decide.2 (e.trans ((he _).trans e'.symm))
/-- what perms hands back -/
theorem perms_lists {n : Nat} {L L' : List (List Int)} (h1 : 1 ≤ n) (h7 : n ≤ 7) (hp : L'.Perm L) (ha : Asc L') (hn : L.Nodup) (hpk : ∀ a ∈ L, ∃ p, validL p = true ∧ p.length = n ∧ a = pk7 p) {q : List (List Int)} {P : List Int → Prop} (h : Lists n q P) (hP : ∀ p, validL p = true → p.length = n → (P (pk7 p) ↔ pk7 p ∈ L)) : L'.map (List.take n) = q := by
  obtain ⟨s, rfl, hs⟩ := h
  exact perms_rl h1 h7 hp ha hn hpk fun p hv hl => (hs p hv hl).trans (hP p hv hl)
/-- a closed set, listed, is a group -/
theorem Lists.grp {n : Nat} {q : List (List Int)} {gs : List (List Int)} (h : Lists n q (Gen gs)) (h1 : 1 ≤ n) (h7 : n ≤ 7) (hg : Els gs) (hpk : ∀ a, Gen gs a → ∃ p, validL p = true ∧ p.length = n ∧ a = pk7 p) : IsGrp q ∧ (q.getD 0 []).length = n ∧ ∀ a, a ∈ pks q ↔ Gen gs a := by
  have hm := h.mem h1 h7
  have hid : idL n ∈ q := (hm _).2 ⟨idL_valid h1 h7, length_idL n, by rw [pk7_id h7]; exact .one⟩
  have hpos : 0 < q.length := List.length_pos_of_mem hid
  have h0 : (q.getD 0 []).length = n := h.get hpos
  have hmem : ∀ a, a ∈ pks q ↔ Gen gs a := fun a => by
    unfold pks
    rw [List.mem_map]
    constructor
    · rintro ⟨p, hp, rfl⟩; exact ((hm p).1 hp).2.2
    · intro ha
      obtain ⟨p, v, l, rfl⟩ := hpk a ha
      exact ⟨p, (hm p).2 ⟨v, l, ha⟩, rfl⟩
  refine ⟨⟨⟨hpos, Nat.le_trans h.len (fact_le n h7).2, fun i hi => ?_⟩, fun i hi => ?_, fun a ha => ?_⟩, h0, hmem⟩
  · have := (hm (q.getD i [])).1 (by simp [hi])
    rw [h0]; exact ⟨this.1, this.2.1⟩
  · obtain ⟨s, rfl, _⟩ := h
    have := List.pairwise_iff_getElem.1 (rl_rise (n := n) s) i (i + 1) (by omega) hi (by omega)
    have e1 : (rl n s).getD i [] = (rl n s)[i]'(by omega) := by simp [show i < (rl n s).length by omega]
    have e2 : (rl n s).getD (i + 1) [] = (rl n s)[i + 1] := by simp [hi]
    rw [e1, e2]; exact this
  · rw [hmem]
    exact Gen.sub hg (fun g hg' => (hmem g).1 hg') ha

/-! ### commutators of permutations and of their elements -/
theorem pk7_inv {p : List Int} (hp : validL p = true) : pk7 (invL p) = invL (pk7 p) := by
  have h7 := ((validL_iff _).1 hp).2.1
  refine (pk7_el hp).inv_unique (pk7_el (invL_valid hp)) ?_
  rw [← pk7_mul (invL_valid hp) hp (length_invL p), inv_mulL hp, pk7_id h7]
theorem pk7_comm {p q : List Int} (hp : validL p = true) (hq : validL q = true) (hl : p.length = q.length) : pk7 (commL p q) = commG (pk7 p) (pk7 q) := by
  unfold commL commG conjL
  have e1 := pk7_el hp
  have e2 := pk7_el hq
  rw [pk7_mul (mulL_valid (invL_valid hp) (invL_valid hq) (by rw [length_invL, length_invL]; exact hl)) (mulL_valid hp hq hl) (by rw [length_mulL, length_mulL, length_invL]),
    pk7_mul (invL_valid hp) (invL_valid hq) (by rw [length_invL, length_invL]; exact hl), pk7_mul hp hq hl, pk7_inv hp, pk7_inv hq,
    e1.inv.assoc _ e2.inv, ← e2.inv.assoc _ e1]
theorem commL_valid {p q : List Int} (hp : validL p = true) (hq : validL q = true) (hl : p.length = q.length) : validL (commL p q) = true ∧ (commL p q).length = p.length := by
  unfold commL
  exact ⟨mulL_valid (mulL_valid (invL_valid hp) (invL_valid hq) (by rw [length_invL, length_invL]; exact hl)) (mulL_valid hp hq hl) (by rw [length_mulL, length_mulL, length_invL]), by rw [length_mulL, length_mulL, length_invL]⟩

/-- the commutators looked at so far: i rows whole, k of the next -/
def cmTo (ps : List (List Int)) (i k : Nat) : List (List Int) := ((ps.take i).flatMap fun a => ps.map (commL a)) ++ (ps.take k).map (commL (ps.getD i []))
theorem cmTo_snoc {ps : List (List Int)} {i k : Nat} (hk : k < ps.length) : cmTo ps i (k + 1) = cmTo ps i k ++ [commL (ps.getD i []) (ps.getD k [])] := by
  unfold cmTo
  rw [List.take_succ_eq_append_getElem hk, List.map_append, ← List.append_assoc]
  simp [hk]
theorem cmTo_next {ps : List (List Int)} {i : Nat} (hi : i < ps.length) : cmTo ps i ps.length = cmTo ps (i + 1) 0 := by
  unfold cmTo
  rw [List.take_succ_eq_append_getElem hi, List.flatMap_append]
  simp [hi]
theorem cmTo_mem (ps : List (List Int)) (x : List Int) : x ∈ cmTo ps ps.length 0 ↔ ∃ a b, a ∈ ps ∧ b ∈ ps ∧ x = commL a b := by
  unfold cmTo
  simp only [List.take_length, List.take_zero, List.map_nil, List.append_nil, List.mem_flatMap, List.mem_map]
  constructor
  · rintro ⟨a, ha, b, hb, rfl⟩; exact ⟨a, b, ha, hb, rfl⟩
  · rintro ⟨a, b, ha, hb, rfl⟩; exact ⟨a, ha, b, hb, rfl⟩

set_option maxRecDepth 100000 in
set_option maxHeartbeats 4000000 in
theorem refComms_any (v : Value) (ps : List (List Int)) (w : World) (h : Sps w v ps) (hg : GenP ps) :
    Calls Try.prog 71 #[v] w fun e w' => ∃ x, e = .returned x ∧ Owp w.heap.size w' x (rl (ps.getD 0 []).length (rks (cmTo ps ps.length 0))) ∧ Below w.heap.size w w' := by
  obtain ⟨n, hn⟩ : ∃ n, n = (ps.getD 0 []).length := ⟨_, rfl⟩
  have hv0 := (validL_iff _).1 (hg.2.2 0 hg.1).1
  have h1 : 1 ≤ n := by rw [hn]; exact hv0.1
  have h7 : n ≤ 7 := by rw [hn]; exact hv0.2.1
  rw [← hn]
  have HV := Lib.hid (show ∀ p ∈ ps, validL p = true ∧ p.length = n from fun p hp => by rw [hn]; exact hg.mem hp)
  obtain ⟨a, cap, rfl, h⟩ := h
  obtain ⟨m, hm⟩ : ∃ m, m = ps.length := ⟨_, rfl⟩
  have hm1 : 1 ≤ m := by rw [hm]; exact hg.1
  have hm2 : m ≤ 5040 := by rw [hm]; exact hg.2.1
  rcases h with h | ⟨b, off, rfl, h⟩
  · rw [h] at hm; simp at hm; omega
  obtain ⟨x0, g0, s0⟩ := h 0 (by omega)
  rw [Nat.add_zero] at g0
  have hbw : b < w.heap.size := World.block_lt_of_cell? w _ g0
  obtain ⟨xa, xc, rfl, _⟩ := s0
  have HC := Lib.hid h
  have HM := Lib.hid hm
  have HN := Lib.hid hn
  have HG := Lib.hid hg
  rw [← hn] at g0
  rw [← hm]
  obtain ⟨F, hF⟩ : ∃ F, F = fact n := ⟨_, rfl⟩
  obtain ⟨f1, f2⟩ := fact_le n h7
  rw [← hF] at f1 f2
  have HF := Lib.hid hF
  clear hg hv0 h hm hn hF
  go_enter Try.func71, Try.ntmps71
  go_wp2_with fail
  refine (SetOf_any n (.slice none 0 0) [] _ h1 h7 ⟨none, 0, rfl, .inl rfl⟩ (fun p hp => by simp at hp) (by simp)).mono ?_
  rintro e w1 ⟨g, rfl, hlo, hmk, hb1⟩
  unfold setV
  rw [← HF.out] at hmk ⊢
  have M1 := Lib.hid (show Blk _ g 4 (mkm F (rks (cmTo ps 0 0))) from hmk.alloc (.cells #[.int .i64 n, .slice (some ⟨g, 0, none⟩) F F] 63))
  have C1 := Lib.hid (Blk.new w1 63 #[.int .i64 n, .slice (some ⟨g, 0, none⟩) F F])
  have B1 := Lib.hid (hb1.alloc hb1.size (.cells #[.int .i64 n, .slice (some ⟨g, 0, none⟩) F F] 63))
  have HLo := Lib.hid hlo
  clear hmk hb1 hlo
  go_wp2_with fail
  obtain ⟨c, hc⟩ : ∃ c, c = w1.heap.size := ⟨_, rfl⟩
  rw [← hc] at C1 ⊢
  have hcg := C1.out.ne M1.out (by decide)
  clear hc
  generalize w1.alloc (.cells #[.int .i64 n, .slice (some ⟨g, 0, none⟩) F F] 63) = w2 at *
  go_loopw [4] (fun iv wr => ∃ i : Nat, iv = .int .i64 i ∧ i ≤ m ∧ Hid (Blk wr c 63 #[.int .i64 n, .slice (some ⟨g, 0, none⟩) F F]) ∧ Hid (Blk wr g 4 (mkm F (rks (cmTo ps i 0)))) ∧ Hid (Below w.heap.size w wr)) (fun iv _ => m - (intOf iv).toNat)
  case atStart => exact ⟨0, rfl, Nat.zero_le _, C1, M1, B1⟩
  case round =>
    clear C1 M1 B1
    obtain ⟨i, rfl, hi, C1, M1, B1⟩ := hrel
    by_cases hli : i < m
    · obtain ⟨wo, rfl⟩ : ∃ wo, wo = wr := ⟨wr, rfl⟩
      go_wp2_with fail
      go_loopw [5] (fun kv wr => ∃ k : Nat, kv = .int .i64 k ∧ k ≤ m ∧ Hid (Blk wr c 63 #[.int .i64 n, .slice (some ⟨g, 0, none⟩) F F]) ∧ Hid (Blk wr g 4 (mkm F (rks (cmTo ps i k)))) ∧ Hid (Below w.heap.size w wr)) (fun kv _ => m - (intOf kv).toNat)
      case atStart => exact ⟨0, rfl, Nat.zero_le _, C1, M1, B1⟩
      case round =>
        clear C1 M1 B1
        obtain ⟨k, rfl, hk, C1, M1, B1⟩ := hrel
        by_cases hlk : k < m
        · obtain ⟨x, x0, sx⟩ := HC.out i (by rw [← HM.out]; omega)
          obtain ⟨y, y0, sy⟩ := HC.out k (by rw [← HM.out]; omega)
          obtain ⟨pv, pl⟩ := HG.out.2.2 i (by rw [← HM.out]; omega)
          obtain ⟨qv, ql⟩ := HG.out.2.2 k (by rw [← HM.out]; omega)
          rw [← HN.out] at pl ql
          have hsn := cmTo_snoc (ps := ps) (i := i) (k := k) (by rw [← HM.out]; exact hlk)
          obtain ⟨p, hp⟩ : ∃ p, p = ps.getD i [] := ⟨_, rfl⟩
          obtain ⟨q, hq⟩ : ∃ q, q = ps.getD k [] := ⟨_, rfl⟩
          rw [← hp] at sx pv pl
          rw [← hq] at sy qv ql
          rw [← hp, ← hq] at hsn
          have fx := sx.below B1.out
          have fy := sy.below B1.out
          obtain ⟨xa, xc, e1, _⟩ := sx
          obtain ⟨ya, yc, e2, _⟩ := sy
          rw [pl] at e1
          rw [ql] at e2
          subst e1 e2
          have cx : wr.cell? ⟨b, off + i, none⟩ = some (.slice xa n xc) := (B1.out.cell (p := ⟨b, off + i, none⟩) hbw).trans x0
          have cy : wr.cell? ⟨b, off + k, none⟩ = some (.slice ya n yc) := (B1.out.cell (p := ⟨b, off + k, none⟩) hbw).trans y0
          obtain ⟨av, al⟩ := commL_valid pv qv (pl.trans ql.symm)
          rw [pl] at al
          have hR := (unrL_rank av).2
          rw [al, ← HF.out] at hR
          have he := errP_ok pv qv (pl.trans ql.symm)
          obtain ⟨R, hR0⟩ : ∃ R, R = rankL (commL p q) := ⟨_, rfl⟩
          rw [← hR0] at hR
          have hs2 : rks (cmTo ps i (k + 1)) = rks (cmTo ps i k) ++ [(R : Int)] := by rw [hsn, rks_snoc, hR0]
          have cs : wr.cell? ⟨c, 1, none⟩ = some (.slice (some ⟨g, 0, none⟩) F F) := by rw [C1.out.cell 1]; rfl
          have hbg : b ≠ g := by have := HLo.out; omega
          have FX := Lib.hid fx
          have FY := Lib.hid fy
          have AL := Lib.hid al
          have HR0 := Lib.hid hR0
          have HE := Lib.hid he
          have HS2 := Lib.hid hs2
          clear fx fy pv qv pl ql hp hq al av hR0 x0 y0 hsn he hs2
          go_wp2_with fail
          refine wp_region_held_all (S := fun w' => w'.cell? ⟨c, 1, none⟩ = some (.slice (some ⟨g, 0, none⟩) F F) ∧ w'.cell? ⟨b, off + i, none⟩ = some (.slice xa n xc) ∧ w'.cell? ⟨b, off + k, none⟩ = some (.slice ya n yc)) (by kernel_rfl) ?_
          have hS : wr.drew.cell? ⟨c, 1, none⟩ = some (.slice (some ⟨g, 0, none⟩) F F) ∧ wr.drew.cell? ⟨b, off + i, none⟩ = some (.slice xa n xc) ∧ wr.drew.cell? ⟨b, off + k, none⟩ = some (.slice ya n yc) := ⟨cs, cx, cy⟩
          refine held_take (i := 0) (v := .pointer (some ⟨c, 1, none⟩)) rfl rfl (by kernel_rfl) (by kernel_rfl) (by kernel_rfl) (fun w' h => by go_simp) hS ?_
          refine held_take (i := 1) (v := .slice (some ⟨g, 0, none⟩) F F) rfl rfl (by kernel_rfl) (by kernel_rfl) (by kernel_rfl) (fun w' h => by have h1 := h.1; go_simp) hS ?_
          refine held_take (i := 2) (v := .slice (some ⟨b, off, none⟩) m cap) rfl rfl (by kernel_rfl) (by kernel_rfl) (by kernel_rfl) (fun w' h => by go_simp) hS ?_
          refine held_take (i := 3) (v := .int .i64 i) rfl rfl (by kernel_rfl) (by kernel_rfl) (by kernel_rfl) (fun w' h => by go_simp) hS ?_
          refine held_take (i := 4) (v := .pointer (some ⟨b, off + i, none⟩)) rfl rfl (by kernel_rfl) (by kernel_rfl) (by kernel_rfl) (fun w' h => by go_simp) hS ?_
          simp [Act.put]
          refine held_take (i := 5) (v := .slice xa n xc) rfl rfl (by kernel_rfl) (by kernel_rfl) (by kernel_rfl) (fun w' h => by have h1 := h.2.1; go_simp) hS ?_
          refine held_take (i := 6) (v := .slice (some ⟨b, off, none⟩) m cap) rfl rfl (by kernel_rfl) (by kernel_rfl) (by kernel_rfl) (fun w' h => by go_simp) hS ?_
          refine held_take (i := 7) (v := .int .i64 k) rfl rfl (by kernel_rfl) (by kernel_rfl) (by kernel_rfl) (fun w' h => by go_simp) hS ?_
          refine held_take (i := 8) (v := .pointer (some ⟨b, off + k, none⟩)) rfl rfl (by kernel_rfl) (by kernel_rfl) (by kernel_rfl) (fun w' h => by go_simp) hS ?_
          refine held_take (i := 9) (v := .slice ya n yc) rfl rfl (by kernel_rfl) (by kernel_rfl) (by kernel_rfl) (fun w' h => by have h1 := h.2.2; go_simp) hS ?_
          simp [Act.put]
          have hb0 : Below wr.heap.size wr wr.drew := below_drewN' (Below.refl _ _) 1
          refine held_only (i := 10) rfl rfl (by kernel_rfl) (wp_call_any 41 Try.func41 (by kernel_rfl) rfl _ _ rfl #[.slice xa n xc, .slice ya n yc] rfl ((refcomm_any _ _ p q wr.drew (FX.out.below hb0) (FY.out.below hb0) HE.out).mono ?_))
          rintro e w5 ⟨v, rfl, hv, hb5⟩
          have hb5 := hb0.trans (hb5.mono hb0.size)
          have hbr : b < wr.heap.size := World.block_lt_of_cell? wr _ cx
          have hcr : c < wr.heap.size := C1.out.lt
          refine ⟨_, rfl, ⟨(hb5.cell (p := ⟨c, 1, none⟩) hcr).trans cs, (hb5.cell (p := ⟨b, off + i, none⟩) hbr).trans cx, (hb5.cell (p := ⟨b, off + k, none⟩) hbr).trans cy⟩, ?_⟩
          have HVv := Lib.hid hv.sl
          obtain ⟨va, vc, e1, _⟩ := hv.sl
          rw [AL.out] at e1
          subst e1
          clear hv
          simp [Act.put]
          refine held_only (i := 11) rfl rfl (by kernel_rfl) (wp_call_any 54 Try.func54 (by kernel_rfl) rfl _ _ rfl #[.slice va n vc] rfl ((refrank_any _ (commL p q) w5 HVv.out (by have := AL.out; omega)).mono ?_))
          rintro e w6 ⟨rfl, j, rfl⟩
          have hb6 : Below wr.heap.size wr (w5.drewN j) := below_drewN' hb5 j
          rw [← HR0.out]
          generalize w5.drewN j = w6 at *
          have hS6 : w6.cell? ⟨c, 1, none⟩ = some (.slice (some ⟨g, 0, none⟩) F F) ∧ w6.cell? ⟨b, off + i, none⟩ = some (.slice xa n xc) ∧ w6.cell? ⟨b, off + k, none⟩ = some (.slice ya n yc) := ⟨(hb6.cell (p := ⟨c, 1, none⟩) hcr).trans cs, (hb6.cell (p := ⟨b, off + i, none⟩) hbr).trans cx, (hb6.cell (p := ⟨b, off + k, none⟩) hbr).trans cy⟩
          refine ⟨_, rfl, hS6, ?_⟩
          simp [Act.put]
          refine held_take (i := 12) (v := .pointer (some ⟨g, R, none⟩)) rfl rfl (by kernel_rfl) (by kernel_rfl) (by kernel_rfl) (fun w' h => by go_simp) hS6 ?_
          have hM6 := M1.out.below hb6
          have hC6 := C1.out.below hb6
          have hB6 := B1.out.trans (hb6.mono B1.out.size)
          have k6 : w6.cell? ⟨g, R, none⟩ = some (.bool (decide ((R : Int) ∈ rks (cmTo ps i k)))) := by rw [hM6.cell R, mkm_get _ _ _ hR]
          have k7 := hM6.free R
          simp [Act.put]
          refine held_only (i := 13) rfl rfl (by kernel_rfl) ?_
          go_simp
          have T1 := Lib.hid (show Blk (w6.setCell ⟨g, R, none⟩ (.bool true)) g 4 (mkm F (rks (cmTo ps i (k + 1)))) from by
            have := hM6.set R (.bool true)
            rwa [mkm_set, ← HS2.out] at this)
          have T2 := Lib.hid (hC6.other g R (.bool true) hcg)
          have TB := Lib.hid (show Below w.heap.size w (w6.setCell ⟨g, R, none⟩ (.bool true)) from hB6.setCell HLo.out _)
          clear hM6 hC6 hB6 k6 k7 hS6 hS hb0 hb5 hb6 cs cx cy hbr hcr
          refine held_done (by kernel_rfl) ?_
          go_wp2_with fail
          go_roundw
          case rel => exact ⟨k + 1, by go_num, by omega, T2, T1, TB⟩
          case measure => simp [intOf]; omega
        · have T1 := Lib.hid (show Blk wr g 4 (mkm F (rks (cmTo ps (i + 1) 0))) from by
            have := M1.out
            rwa [show k = ps.length by rw [← HM.out]; omega, cmTo_next (by rw [← HM.out]; exact hli)] at this)
          go_wp2_with fail
          go_roundw
          case rel => exact ⟨i + 1, by go_num, by omega, C1, T1, B1⟩
          case measure => simp [intOf]; omega
    · have hke : i = m := by omega
      have T1 := M1.out
      rw [hke, HF.out] at T1
      have HCall := Lib.hid (show Calls Try.prog 55 #[.agg #[.int .i64 n, .slice (some ⟨g, 0, none⟩) F F]] wr fun e w' => ∃ x, e = .returned x ∧ Owp wr.heap.size w' x (rl n (rks (cmTo ps m 0))) ∧ Below wr.heap.size wr w' from by
        have := List_any n g (rks (cmTo ps m 0)) wr h1 h7 T1
        unfold setV at this
        rwa [← HF.out] at this)
      have k1 : wr.cell? ⟨c, 0, none⟩ = some (.int .i64 n) := by rw [C1.out.cell 0]; rfl
      have k2 : wr.cell? ⟨c, 1, none⟩ = some (.slice (some ⟨g, 0, none⟩) F F) := by rw [C1.out.cell 1]; rfl
      clear hke T1
      go_wp2_with fail
      refine HCall.out.mono ?_
      rintro e w4 ⟨x, rfl, ho, hb4⟩
      have HO := Lib.hid (ho.mono B1.out.size)
      have HB := Lib.hid (B1.out.trans (hb4.mono B1.out.size))
      clear ho hb4
      go_wp2_with fail
      go_ret
      exact ⟨x, rfl, HO.out, HB.out⟩

/-- what the reference's Derived of a group is -/
theorem comms_lists {ps : List (List Int)} (hg : GenP ps) : Lists (ps.getD 0 []).length (rl (ps.getD 0 []).length (rks (cmTo ps ps.length 0))) (fun a => a ∈ comms (pks ps)) := by
  refine ⟨_, rfl, fun p hv hl => ?_⟩
  have hS : ∀ x ∈ cmTo ps ps.length 0, validL x = true ∧ x.length = (ps.getD 0 []).length := fun x hx => by
    obtain ⟨a, b, ha, hb, rfl⟩ := (cmTo_mem ps x).1 hx
    obtain ⟨v1, l1⟩ := hg.mem ha
    obtain ⟨v2, l2⟩ := hg.mem hb
    obtain ⟨u, l⟩ := commL_valid v1 v2 (l1.trans l2.symm)
    exact ⟨u, l.trans l1⟩
  show _ ↔ pk7 p ∈ comms (pks ps)
  rw [rks_mem hS hv hl, cmTo_mem, mem_comms]
  constructor
  · rintro ⟨a, b, ha, hb, rfl⟩
    obtain ⟨v1, l1⟩ := hg.mem ha
    obtain ⟨v2, l2⟩ := hg.mem hb
    exact ⟨_, _, List.mem_map.2 ⟨a, ha, rfl⟩, List.mem_map.2 ⟨b, hb, rfl⟩, pk7_comm v1 v2 (l1.trans l2.symm)⟩
  · rintro ⟨a, b, ha, hb, e⟩
    obtain ⟨a', ha', rfl⟩ := List.mem_map.1 ha
    obtain ⟨b', hb', rfl⟩ := List.mem_map.1 hb
    obtain ⟨v1, l1⟩ := hg.mem ha'
    obtain ⟨v2, l2⟩ := hg.mem hb'
    refine ⟨a', b', ha', hb', ?_⟩
    rw [← pk7_comm v1 v2 (l1.trans l2.symm)] at e
    exact pk7_same (hl.trans ((commL_valid v1 v2 (l1.trans l2.symm)).2.trans l1).symm) e
theorem comms_pk {ps : List (List Int)} (hg : GenP ps) {a : List Int} (h : a ∈ comms (pks ps)) : ∃ p, validL p = true ∧ p.length = (ps.getD 0 []).length ∧ a = pk7 p := by
  obtain ⟨x, y, hx, hy, rfl⟩ := mem_comms.1 h
  obtain ⟨p, hp, rfl⟩ := List.mem_map.1 hx
  obtain ⟨q, hq, rfl⟩ := List.mem_map.1 hy
  obtain ⟨v1, l1⟩ := hg.mem hp
  obtain ⟨v2, l2⟩ := hg.mem hq
  obtain ⟨u, l⟩ := commL_valid v1 v2 (l1.trans l2.symm)
  exact ⟨_, u, l.trans l1, (pk7_comm v1 v2 (l1.trans l2.symm)).symm⟩
/-- the list of commutators is a list of generators, of the derived group -/
theorem comms_gen {ps C : List (List Int)} (hg : GenP ps) (hC : Lists (ps.getD 0 []).length C (fun a => a ∈ comms (pks ps))) : GenP C ∧ (C.getD 0 []).length = (ps.getD 0 []).length ∧ ∀ a, Gen (pks C) a ↔ Gen (comms (pks ps)) a := by
  have hv0 := (validL_iff _).1 (hg.2.2 0 hg.1).1
  have hm := hC.mem hv0.1 hv0.2.1
  have h0 : ps.getD 0 [] ∈ ps := by simp [show 0 < ps.length from hg.1]
  obtain ⟨u, l⟩ := commL_valid (hg.2.2 0 hg.1).1 (hg.2.2 0 hg.1).1 rfl
  have hc0 : commL (ps.getD 0 []) (ps.getD 0 []) ∈ C := (hm _).2 ⟨u, l, by
    rw [pk7_comm (hg.2.2 0 hg.1).1 (hg.2.2 0 hg.1).1 rfl]
    exact mem_comms.2 ⟨_, _, List.mem_map.2 ⟨_, h0, rfl⟩, List.mem_map.2 ⟨_, h0, rfl⟩, rfl⟩⟩
  have hpos := List.length_pos_of_mem hc0
  have hl0 := hC.get hpos
  refine ⟨⟨hpos, Nat.le_trans hC.len (fact_le _ hv0.2.1).2, fun i hi => ?_⟩, hl0, gen_same fun x => ?_⟩
  · have := (hm (C.getD i [])).1 (by simp [hi])
    rw [hl0]; exact ⟨this.1, this.2.1⟩
  · unfold pks
    rw [List.mem_map]
    constructor
    · rintro ⟨p, hp, rfl⟩; exact ((hm p).1 hp).2.2
    · intro hx
      obtain ⟨p, v, l, rfl⟩ := comms_pk hg hx
      exact ⟨p, (hm p).2 ⟨v, l, hx⟩, rfl⟩

set_option maxHeartbeats 1000000 in
theorem refDer_any (v : Value) (ps : List (List Int)) (w : World) (h : Sps w v ps) (hg : GenP ps) :
    Calls Try.prog 29 #[v] w fun e w' => ∃ x q, e = .returned x ∧ Owp w.heap.size w' x q ∧ Lists (ps.getD 0 []).length q (Gen (comms (pks ps))) ∧ Below w.heap.size w w' := by
  have HH := Lib.hid h
  have HG := Lib.hid hg
  obtain ⟨a, cap, rfl, _⟩ := h
  obtain ⟨m, hm⟩ : ∃ m, m = ps.length := ⟨_, rfl⟩
  rw [← hm] at HH ⊢
  clear hg hm
  go_enter Try.func29, Try.ntmps29
  go_wp2_with fail
  refine (refComms_any _ ps _ HH.out HG.out).mono ?_
  rintro e w1 ⟨x, rfl, ho, hb⟩
  obtain ⟨C, hC⟩ : ∃ C, C = rl (ps.getD 0 []).length (rks (cmTo ps ps.length 0)) := ⟨_, rfl⟩
  have hL := comms_lists HG.out
  rw [← hC] at ho hL
  have HO := Lib.hid ho
  have HL := Lib.hid (comms_gen HG.out hL)
  have HB := Lib.hid hb
  obtain ⟨xa, xc, rfl, _⟩ := ho.sps
  obtain ⟨l, hl⟩ : ∃ l, l = C.length := ⟨_, rfl⟩
  rw [← hl] at HO ⊢
  clear ho hb hL hC hl
  go_wp2_with fail
  refine (refClose_any _ C _ HO.out.sps HL.out.1).mono ?_
  rintro e w2 ⟨y, s, rfl, ho, hmem, hb⟩
  rw [HL.out.2.1] at ho hmem
  have HO2 := Lib.hid (ho.mono HB.out.size)
  have HM := Lib.hid hmem
  have HB2 := Lib.hid (HB.out.trans (hb.mono HB.out.size))
  clear ho hmem hb
  go_wp2_with fail
  go_ret
  exact ⟨y, _, rfl, HO2.out, ⟨s, rfl, fun p hv hl => (HM.out p hv hl).trans (HL.out.2.2 _)⟩, HB2.out⟩
end Go.Proofs.Ytdcilefiacohnaa
