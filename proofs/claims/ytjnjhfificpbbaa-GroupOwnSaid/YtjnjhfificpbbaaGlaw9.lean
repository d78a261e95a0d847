/- GroupPairs. -/
import Derived.Test.YtjnjhfificpbbaaDis
namespace Go.Proofs.Ytjnjhfificpbbaa
open Go Go.RowKit

theorem prs_form {ps : List (List Int)} {z : List Int} {w w' : World} {e : Ending} (h : PrsR ps z w w' e) (hv : validL z = false) : e = .returned (.tuple #[.slice none 0 0, .int .i64 1]) := by
  rcases h with ⟨_, h⟩ | ⟨h1, _⟩ | ⟨h1, _⟩ | ⟨h1, _⟩
  · exact h
  all_goals rw [hv] at h1; cases h1
theorem prs_notin {ps : List (List Int)} {z : List Int} {w w' : World} {e : Ending} (h : PrsR ps z w w' e) (hv : validL z = true) (hn : z ∉ ps) : e = .returned (.tuple #[.slice none 0 0, .int .i64 2]) := by
  rcases h with ⟨h1, _⟩ | ⟨_, _, h⟩ | ⟨_, h1, _⟩ | ⟨_, h1, _⟩
  · rw [hv] at h1; cases h1
  · exact h
  · exact absurd h1 hn
  · exact absurd h1 hn
theorem prs_none {ps : List (List Int)} {z : List Int} {w w' : World} {e : Ending} (h : PrsR ps z w w' e) (hv : validL z = true) (hm : z ∈ ps) (hn : ¬ Gen (comms (pks ps)) (pk7 z)) : e = .returned (.tuple #[.slice none 0 0, .int .i64 6]) := by
  rcases h with ⟨h1, _⟩ | ⟨_, h1, _⟩ | ⟨_, _, _, h⟩ | ⟨_, _, h1, _⟩
  · rw [hv] at h1; cases h1
  · exact absurd hm h1
  · exact h
  · exact absurd h1 hn
theorem prs_some {ps : List (List Int)} {z : List Int} {w w' : World} {e : Ending} (h : PrsR ps z w w' e) (hv : validL z = true) (hm : z ∈ ps) (hg : Gen (comms (pks ps)) (pk7 z)) : ∃ x Qs, e = .returned (.tuple #[x, .int .i64 0]) ∧ Prow w.heap.size w' x (ps.getD 0 []).length Qs ∧ (∀ p ∈ Qs, ∃ a b, p = a ++ b ∧ a ∈ pks ps ∧ b ∈ pks ps) ∧ prodF (idL 7) Qs = pk7 z ∧ Lst (fun c => c ∈ comms (pks ps)) Qs.length (pk7 z) := by
  rcases h with ⟨h1, _⟩ | ⟨_, h1, _⟩ | ⟨_, _, h1, _⟩ | ⟨_, _, _, h⟩
  · rw [hv] at h1; cases h1
  · exact absurd hm h1
  · exact absurd hg h1
  · exact h
theorem prow_cells {B n : Nat} {w : World} {v : Value} {Qs : List (List Int)} (h : Prow B w v n Qs) : ∃ a cx, v = .slice a Qs.length cx ∧ (0 < Qs.length → ∃ gx, a = some ⟨gx, 0, none⟩ ∧ ∀ i, i < Qs.length → ∃ x y, w.cell? ⟨gx, i * 2, none⟩ = some x ∧ w.cell? ⟨gx, i * 2 + 1, none⟩ = some y ∧ Ow B w x (((Qs.getD i []).take 7).take n) ∧ Ow B w y (((Qs.getD i []).drop 7).take n)) := by
  obtain ⟨vs, h1, h2, h3⟩ := h
  rcases h2.2 with ⟨e, h0⟩ | ⟨gx, cap, cur, e, _, hb, _, _, _, ht⟩
  · exact ⟨none, 0, by rw [e, h0], fun h => by omega⟩
  · refine ⟨_, cap, e, fun _ => ⟨gx, rfl, fun i hi => ?_⟩⟩
    have hc : ∀ j, j < vs.length → w.cell? ⟨gx, j, none⟩ = some (vs.getD j undef) := fun j hj => by
      rw [Blk.cell (show Blk w gx _ cur from hb) j]
      have : vs[j]? = cur.toList[j]? := by
        rw [← ht, List.getElem?_take]
        rw [if_pos (by omega)]
      rw [← Array.getElem?_toList, ← this, List.getD_eq_getElem?_getD, List.getElem?_eq_getElem hj]
      rfl
    exact ⟨_, _, hc (i * 2) (by omega), hc (i * 2 + 1) (by omega), (h3 i hi).1, (h3 i hi).2⟩
theorem pair_parts {ps : List (List Int)} (hp : IsGrp ps) {p : List Int} (h : ∃ a b, p = a ++ b ∧ a ∈ pks ps ∧ b ∈ pks ps) : ∃ a b, a ∈ ps ∧ b ∈ ps ∧ (p.take 7).take (ps.getD 0 []).length = a ∧ (p.drop 7).take (ps.getD 0 []).length = b ∧ cmP p = commG (pk7 a) (pk7 b) := by
  obtain ⟨a, b, rfl, ha, hb⟩ := h
  obtain ⟨a', ha', rfl⟩ := List.mem_map.1 ha
  obtain ⟨b', hb', rfl⟩ := List.mem_map.1 hb
  have h7 := hp.seven
  have la := (hp.1.mem ha').2
  have lb := (hp.1.mem hb').2
  have l7 : (pk7 a').length = 7 := length_pk7 (by omega)
  refine ⟨a', b', ha', hb', ?_, ?_, cmP_app l7⟩
  · rw [List.take_left' l7, ← la, pk7_take]
  · rw [List.drop_left' l7, ← lb, pk7_take]
theorem prod_take {Qs : List (List Int)} {i : Nat} (hi : i < Qs.length) (g : List Int) : prodF g (Qs.take (i + 1)) = mulL (prodF g (Qs.take i)) (cmP (Qs.getD i [])) := by
  unfold prodF
  rw [List.take_succ_eq_append_getElem hi, List.foldl_append]
  simp [hi]
/-- the product so far -/
def PrdAt (n : Nat) (Qs : List (List Int)) (i : Nat) (P : List Int) : Prop := validL P = true ∧ P.length = n ∧ pk7 P = prodF (idL 7) (Qs.take i)
theorem PrdAt.start {n : Nat} (h1 : 1 ≤ n) (h7 : n ≤ 7) (Qs : List (List Int)) : PrdAt n Qs 0 (idL n) := ⟨idL_valid h1 h7, length_idL n, by rw [pk7_id h7]; rfl⟩
theorem PrdAt.step {n i : Nat} {Qs : List (List Int)} {P a b : List Int} (h : PrdAt n Qs i P) (hi : i < Qs.length) (ha : validL a = true ∧ a.length = n) (hb : validL b = true ∧ b.length = n) (e : cmP (Qs.getD i []) = commG (pk7 a) (pk7 b)) : PrdAt n Qs (i + 1) (mulL P (commL a b)) := by
  obtain ⟨v, l⟩ := commL_valid ha.1 hb.1 (ha.2.trans hb.2.symm)
  have hl : P.length = (commL a b).length := h.2.1.trans (l.trans ha.2).symm
  refine ⟨mulL_valid h.1 v hl, (length_mulL _ _).trans h.2.1, ?_⟩
  rw [pk7_mul h.1 v hl, pk7_comm ha.1 hb.1 (ha.2.trans hb.2.symm), h.2.2, prod_take hi, e]
theorem lst_gen {cs : List (List Int)} {m : Nat} {x : List Int} (h : Lst (fun c => c ∈ cs) m x) : Gen cs x := prd_gen.2 ⟨m, h.1⟩

set_option maxRecDepth 100000 in
set_option maxHeartbeats 8000000 in
theorem pairs_law (v u : Value) (gs : List (List Int)) (z : List Int) (w : World) (h : InPs w v gs) (hu : Sl w u z ∧ z.length ≤ 9223372036854775807) :
    Calls Try.prog 8 #[v, u] w fun e w' => e = .returned (.bool true) ∧ Below w.heap.size w w' := by
  have HI := Lib.hid h
  obtain ⟨⟨a, cap, rfl, _⟩, _, _⟩ := h
  obtain ⟨m, hm⟩ : ∃ m, m = gs.length := ⟨_, rfl⟩
  rw [← hm] at HI ⊢
  clear hm
  have HK := Lib.hid hu.1
  have hul := hu.2
  obtain ⟨za, zc, rfl, _⟩ := hu.1
  obtain ⟨zn, hzn⟩ : ∃ zn, zn = z.length := ⟨_, rfl⟩
  have HZn := Lib.hid hzn
  rw [← hzn] at HK hul ⊢
  clear hu hzn
  go_enter Try.func8, Try.ntmps8
  go_wp2_with fail
  refine (closed_any _ gs _ HI.out).mono ?_
  rintro e w1 ⟨hb1, ⟨xa, xl, xc, rfl⟩ | ⟨x, ps, rfl, ho, hc, _⟩⟩
  · have HB1 := Lib.hid hb1
    clear hb1
    go_wp2_with fail
    refine (alive_any _).mono ?_
    rintro e w2 ⟨rfl, hb⟩
    have HB := Lib.hid (HB1.out.trans (hb.mono HB1.out.size))
    clear hb
    go_wp2_with fail
    go_ret
    exact ⟨rfl, HB.out⟩
  · have HB1 := Lib.hid hb1
    have HG := Lib.hid hc.2.1
    have HS := Lib.hid ho.sps
    have HK1 := Lib.hid (HK.out.below hb1)
    have hl5 : ps.length ≤ 5040 := hc.2.1.1.2.1
    have h7 := hc.2.1.seven
    have HX := Lib.hid (show ∀ i, i < ps.length → (ps.getD i []).length ≤ 1000000 from fun i hi => by rw [(hc.2.1.1.mem (getD_mem hi)).2]; omega)
    obtain ⟨pa, pc, rfl, _⟩ := ho.sps
    obtain ⟨l, hl⟩ : ∃ l, l = ps.length := ⟨_, rfl⟩
    rw [← hl] at HS hl5 ⊢
    have HL := Lib.hid hl
    clear hb1 hc ho hl
    by_cases h100 : 100 < zn
    · go_wp2_with fail
      refine (alive_any _).mono ?_
      rintro e w2 ⟨rfl, hb⟩
      have HB := Lib.hid (HB1.out.trans (hb.mono HB1.out.size))
      clear hb
      go_wp2_with fail
      go_ret
      exact ⟨rfl, HB.out⟩
    · have HZ6 := Lib.hid (show z.length ≤ 1000000 by rw [← HZn.out]; omega)
      have hv := refvalid_any _ z w1 HK1.out HZ6.out
      obtain ⟨zv, hzv⟩ : ∃ zv, zv = validL z := ⟨_, rfl⟩
      rw [← hzv] at hv
      have HV := Lib.hid hv
      have HZv := Lib.hid hzv
      clear hv hzv
      go_wp2_with fail
      refine HV.out.mono ?_
      rintro e w2 ⟨rfl, j, rfl⟩
      have hb2 : Below w1.heap.size w1 (w1.drewN j) := below_drewN' (Below.refl _ _) j
      have HB2 := Lib.hid (HB1.out.trans (hb2.mono HB1.out.size))
      have HS2 := Lib.hid (HS.out.below hb2)
      have HK2 := Lib.hid (HK1.out.below hb2)
      generalize w1.drewN j = w2 at *
      clear hb2 HV HS HK1 HB1
      have HPr := Lib.hid (show ∀ w', Below w2.heap.size w2 w' → Calls Try.prog 27 #[.slice pa l pc, .slice za zn zc] w' fun e w'' => Below w'.heap.size w' w'' ∧ PrsR ps z w' w'' e from
        fun w' hb => Pairs_ok _ _ ps z w' (HS2.out.below hb) HG.out (HK2.out.below hb) HZ6.out)
      cases zv with
      | false =>
        have HPq := Lib.hid (HPr.out w2 (Below.refl _ _))
        go_wp2_with fail
        refine HPq.out.mono ?_
        rintro e w3 ⟨hb, hr⟩
        obtain rfl := prs_form hr HZv.out.symm
        have HB3 := Lib.hid (HB2.out.trans (hb.mono HB2.out.size))
        clear hb hr
        go_wp2_with fail
        refine (alive_any _).mono ?_
        rintro e w4 ⟨rfl, hb⟩
        have HB := Lib.hid (HB3.out.trans (hb.mono HB3.out.size))
        clear hb
        go_wp2_with fail
        go_ret
        exact ⟨rfl, HB.out⟩
      | true =>
        have HIn := Lib.hid (refIn_any _ _ ps z w2 HS2.out HK2.out HX.out HZ6.out (by rw [← HL.out]; omega))
        go_wp2_with fail
        refine HIn.out.mono ?_
        rintro e w3 ⟨r, rfl, hs, hb⟩
        have HSi := Lib.hid hs
        have HB3 := Lib.hid (HB2.out.trans (hb.mono HB2.out.size))
        have HW3 := Lib.hid hb
        clear hs hb HIn
        cases r with
        | false =>
          have HPq := Lib.hid (HPr.out w3 HW3.out)
          go_wp2_with fail
          refine HPq.out.mono ?_
          rintro e w4 ⟨hb, hr⟩
          obtain rfl := prs_notin hr HZv.out.symm (fun h => by have := HSi.out.2 h; cases this)
          have HB4 := Lib.hid (HB3.out.trans (hb.mono HB3.out.size))
          clear hb hr
          go_wp2_with fail
          refine (alive_any _).mono ?_
          rintro e w5 ⟨rfl, hb⟩
          have HB := Lib.hid (HB4.out.trans (hb.mono HB4.out.size))
          clear hb
          go_wp2_with fail
          go_ret
          exact ⟨rfl, HB.out⟩
        | true =>
          have HM := Lib.hid (HSi.out.1 rfl)
          have HDi := Lib.hid (distance_any _ _ ps z w3 (HS2.out.below HW3.out) HG.out (HK2.out.below HW3.out) HZv.out.symm (HG.out.1.mem (HSi.out.1 rfl)).2)
          clear HSi
          go_wp2_with fail
          refine HDi.out.mono ?_
          rintro e w4 ⟨r, rfl, hr, hb⟩
          have HB4 := Lib.hid (HB3.out.trans (hb.mono HB3.out.size))
          have HW4 := Lib.hid (HW3.out.trans (hb.mono HW3.out.size))
          clear hb HDi HB3 HW3
          have HPq := Lib.hid (HPr.out w4 HW4.out)
          rcases hr with ⟨hn, rfl⟩ | ⟨d, rfl, hd5, hd⟩
          · have HN := Lib.hid hn
            clear hn
            go_wp2_with fail
            refine HPq.out.mono ?_
            rintro e w5 ⟨hb, hr⟩
            obtain rfl := prs_none hr HZv.out.symm HM.out HN.out
            have HB5 := Lib.hid (HB4.out.trans (hb.mono HB4.out.size))
            clear hb hr
            go_wp2_with fail
            refine (alive_any _).mono ?_
            rintro e w6 ⟨rfl, hb⟩
            have HB := Lib.hid (HB5.out.trans (hb.mono HB5.out.size))
            clear hb
            go_wp2_with fail
            go_ret
            exact ⟨rfl, HB.out⟩
          · have HD := Lib.hid hd
            clear hd
            go_wp2_with fail
            refine HPq.out.mono ?_
            rintro e w5 ⟨hb, hr⟩
            obtain ⟨x, Qs, rfl, hr, hq, hpr, hlst⟩ := prs_some hr HZv.out.symm HM.out (lst_gen HD.out)
            have hdq : d = Qs.length := HD.out.uniq hlst
            have HDq := Lib.hid hdq
            have HPd := Lib.hid hpr
            have HB5 := Lib.hid (HB4.out.trans (hb.mono HB4.out.size))
            have HW5 := Lib.hid (HW4.out.trans (hb.mono HW4.out.size))
            have hzl : (ps.getD 0 []).length = zn := by rw [HZn.out]; exact (HG.out.1.mem HM.out).2.symm
            have hv0 := (validL_iff _).1 (HG.out.1.2.2 0 HG.out.1.1).1
            have h1 : 1 ≤ zn := by rw [← hzl]; exact hv0.1
            have hQ : ∀ p ∈ Qs, _ := fun p hp => pair_parts HG.out (hq p hp)
            obtain ⟨xa, xc, rfl, hcells⟩ := prow_cells hr
            rw [← hdq] at hcells ⊢
            rw [hzl] at hcells h7 hQ
            have HQ := Lib.hid hQ
            have HCells := Lib.hid hcells
            have HZl := Lib.hid hzl
            clear hb hr hq hpr hlst hdq hQ hcells hzl hv0 HPq HPr HB4 HW4
            go_wp2_with fail
            refine (refid_blk zn _ (by omega)).mono ?_
            rintro e w6 ⟨rfl, hI, hb6⟩
            have HP6 := Lib.hid (show Sl w6 (.slice (some ⟨w5.heap.size, 0, none⟩) zn zn) (idL zn) from (Ow.of_blk hI (Nat.le_refl _) (by rw [length_idL]; omega) zn (length_idL zn).symm).sl)
            have HW6 := Lib.hid hb6
            have HP0 := Lib.hid (PrdAt.start h1 h7 Qs)
            clear hI hb6
            go_wp2_with fail
            go_loopw [11, 12] (fun pv iv wr => ∃ (i : Nat) (P : List Int), iv = .int .i64 i ∧ i ≤ d ∧ Hid (PrdAt zn Qs i P) ∧ Hid (Sl wr pv P) ∧ Hid (Below w5.heap.size w5 wr)) (fun _ iv _ => d - (intOf iv).toNat)
            case atStart => exact ⟨0, idL zn, rfl, Nat.zero_le _, HP0, HP6, HW6⟩
            case round =>
              clear HP0 HP6 HW6
              obtain ⟨i, P, rfl, hi, HP, HV, HW⟩ := hrel
              by_cases hli : i < d
              · obtain ⟨gx, rfl, hc⟩ := HCells.out (by omega)
                obtain ⟨x, y, f1, f2, ox, oy⟩ := hc i hli
                have hiQ : i < Qs.length := by rw [← HDq.out]; exact hli
                obtain ⟨a', b', ha, hb, ea, eb, ec⟩ := HQ.out (Qs.getD i []) (getD_mem hiQ)
                rw [ea] at ox
                rw [eb] at oy
                obtain ⟨va, la⟩ := HG.out.1.mem ha
                obtain ⟨vb, lb⟩ := HG.out.1.mem hb
                rw [HZl.out] at la lb
                have HSt := Lib.hid (HP.out.step hiQ ⟨va, la⟩ ⟨vb, lb⟩ ec)
                have HSl := Lib.hid (commL_valid va vb (la.trans lb.symm))
                have HEr := Lib.hid (errP_ok va vb (la.trans lb.symm))
                have HLa := Lib.hid la
                have HA := Lib.hid (show ∀ w', Below w5.heap.size w5 w' → w'.cell? ⟨gx, i * 2, none⟩ = some x ∧ Sl w' x a' from fun w' h => ⟨(h.cell (p := ⟨gx, i * 2, none⟩) (World.block_lt_of_cell? w5 _ f1)).trans f1, ox.sl.below h⟩)
                have HBb := Lib.hid (show ∀ w', Below w5.heap.size w5 w' → w'.cell? ⟨gx, i * 2 + 1, none⟩ = some y ∧ Sl w' y b' from fun w' h => ⟨(h.cell (p := ⟨gx, i * 2 + 1, none⟩) (World.block_lt_of_cell? w5 _ f2)).trans f2, oy.sl.below h⟩)
                have HIa := Lib.hid (show ∀ w', Below w5.heap.size w5 w' → Calls Try.prog 37 #[.slice pa l pc, x] w' fun e w'' => e = .returned (.bool true) ∧ Below w'.heap.size w' w'' from fun w' h =>
                  (refIn_any _ _ ps a' w' (HS2.out.below (HW5.out.trans (h.mono HW5.out.size))) (ox.sl.below h) HX.out (by omega) (by rw [← HL.out]; omega)).mono fun e w'' ⟨r, he, hs, hb⟩ => ⟨by rw [he, hs.2 ha], hb⟩)
                have HIb := Lib.hid (show ∀ w', Below w5.heap.size w5 w' → Calls Try.prog 37 #[.slice pa l pc, y] w' fun e w'' => e = .returned (.bool true) ∧ Below w'.heap.size w' w'' from fun w' h =>
                  (refIn_any _ _ ps b' w' (HS2.out.below (HW5.out.trans (h.mono HW5.out.size))) (oy.sl.below h) HX.out (by omega) (by rw [← HL.out]; omega)).mono fun e w'' ⟨r, he, hs, hbb⟩ => ⟨by rw [he, hs.2 hb], hbb⟩)
                have g1 := (HA.out wr HW.out).1
                obtain ⟨xa1, xa2, exa, _⟩ := ox.sl
                obtain ⟨ya1, ya2, eya, _⟩ := oy.sl
                rw [la] at exa
                rw [lb] at eya
                subst exa
                subst eya
                clear hc f1 f2 ox oy ha hb ea eb va la vb lb ec hiQ
                have HI1 := Lib.hid (HIa.out wr HW.out)
                go_wp2_with fail
                refine HI1.out.mono ?_
                rintro e w7 ⟨rfl, hb⟩
                have HW7 := Lib.hid (HW.out.trans (hb.mono HW.out.size))
                have HV7 := Lib.hid (HV.out.below hb)
                have g2 := (HBb.out w7 HW7.out).1
                have HI2 := Lib.hid (HIb.out w7 HW7.out)
                clear hb g1 HI1
                go_wp2_with fail
                refine HI2.out.mono ?_
                rintro e w8 ⟨rfl, hb⟩
                have HW8 := Lib.hid (HW7.out.trans (hb.mono HW7.out.size))
                have HV8 := Lib.hid (HV7.out.below hb)
                clear hb g2 HI2 HV HW HV7 HW7
                go_wp2_with fail
                refine wp_region_held_all (S := fun w' => Below w8.heap.size w8 w') (by kernel_rfl) ?_
                have hS : Below w8.heap.size w8 w8.drew := below_drewN' (Below.refl _ _) 1
                refine held_take (i := 0) (v := u11) rfl rfl (by kernel_rfl) (by kernel_rfl) (by kernel_rfl) (fun w' h => by go_simp) hS ?_
                refine held_take (i := 1) (v := .slice (some ⟨gx, 0, none⟩) d xc) rfl rfl (by kernel_rfl) (by kernel_rfl) (by kernel_rfl) (fun w' h => by go_simp) hS ?_
                refine held_take (i := 2) (v := .int .i64 i) rfl rfl (by kernel_rfl) (by kernel_rfl) (by kernel_rfl) (fun w' h => by go_simp) hS ?_
                refine held_take (i := 3) (v := .pointer (some ⟨gx, i * 2, none⟩)) rfl rfl (by kernel_rfl) (by kernel_rfl) (by kernel_rfl) (fun w' h => by go_simp) hS ?_
                simp [Act.put]
                refine held_take (i := 4) (v := .pointer (some ⟨gx, i * 2, none⟩)) rfl rfl (by kernel_rfl) (by kernel_rfl) (by kernel_rfl) (fun w' h => by go_simp) hS ?_
                refine held_take (i := 5) (v := .slice xa1 zn xa2) rfl rfl (by kernel_rfl) (by kernel_rfl) (by kernel_rfl) (fun w' h => by have h1 := (HA.out w' (HW8.out.trans (h.mono HW8.out.size))).1; go_simp) hS ?_
                simp [Act.put]
                refine held_take (i := 6) (v := .slice (some ⟨gx, 0, none⟩) d xc) rfl rfl (by kernel_rfl) (by kernel_rfl) (by kernel_rfl) (fun w' h => by go_simp) hS ?_
                refine held_take (i := 7) (v := .int .i64 i) rfl rfl (by kernel_rfl) (by kernel_rfl) (by kernel_rfl) (fun w' h => by go_simp) hS ?_
                refine held_take (i := 8) (v := .pointer (some ⟨gx, i * 2, none⟩)) rfl rfl (by kernel_rfl) (by kernel_rfl) (by kernel_rfl) (fun w' h => by go_simp) hS ?_
                simp [Act.put]
                refine held_take (i := 9) (v := .pointer (some ⟨gx, i * 2 + 1, none⟩)) rfl rfl (by kernel_rfl) (by kernel_rfl) (by kernel_rfl) (fun w' h => by go_simp) hS ?_
                refine held_take (i := 10) (v := .slice ya1 zn ya2) rfl rfl (by kernel_rfl) (by kernel_rfl) (by kernel_rfl) (fun w' h => by have h1 := (HBb.out w' (HW8.out.trans (h.mono HW8.out.size))).1; go_simp) hS ?_
                simp [Act.put]
                have hW9 := HW8.out.trans (hS.mono HW8.out.size)
                refine held_only (i := 11) rfl rfl (by kernel_rfl) (wp_call_any 41 Try.func41 (by kernel_rfl) rfl _ _ rfl #[.slice xa1 zn xa2, .slice ya1 zn ya2] rfl ((refcomm_any _ _ a' b' w8.drew (HA.out _ hW9).2 (HBb.out _ hW9).2 HEr.out).mono ?_))
                rintro e w9 ⟨cv, rfl, hcv, hb9⟩
                have hS9 : Below w8.heap.size w8 w9 := hS.trans (hb9.mono hS.size)
                refine ⟨_, rfl, hS9, ?_⟩
                obtain ⟨ca, cc, e1, _⟩ := hcv.sl
                rw [HSl.out.2, HLa.out] at e1
                subst e1
                simp [Act.put]
                refine held_only (i := 12) rfl rfl (by kernel_rfl) (wp_call_any 40 Try.func40 (by kernel_rfl) rfl _ _ rfl #[u11, .slice ca zn cc] rfl ((refmul_any _ _ P (commL a' b') w9 (HV8.out.below hS9) hcv.sl (by rw [HP.out.2.1]; omega) (by rw [HSl.out.2, HLa.out]; omega) (by rw [HSl.out.2, HLa.out, ← HP.out.2.1]; exact inR_of_valid HP.out.1)).mono ?_))
                rintro e w10 ⟨pv, rfl, hpv, hb10⟩
                have hS10 : Below w8.heap.size w8 w10 := hS9.trans (hb10.mono hS9.size)
                refine ⟨_, rfl, hS10, ?_⟩
                obtain ⟨pa1, pc1, e1, _⟩ := hpv.sl
                simp [Act.put]
                refine held_take (i := 13) (v := pv) rfl rfl (by kernel_rfl) (by kernel_rfl) (by kernel_rfl) (fun w' h => by go_simp) hS10 ?_
                refine held_done (by kernel_rfl) ?_
                have HVn := Lib.hid hpv.sl
                have HWn := Lib.hid (HW8.out.trans (hS10.mono HW8.out.size))
                clear hS hW9 hcv hb9 hS9 hpv hb10 hS10 e1 HV8 HW8 HP
                simp [Act.put]
                go_wp2_with fail
                go_roundw
                case rel => exact ⟨i + 1, _, by go_num, by omega, HSt, HVn, HWn⟩
                case measure => simp [intOf]; omega
              · have hid : i = Qs.length := by rw [← HDq.out]; omega
                have hPz : P = z := pk7_same (by rw [HP.out.2.1, HZn.out]) (by rw [HP.out.2.2, hid, List.take_length]; exact HPd.out)
                have HSm := Lib.hid (show Calls Try.prog 42 #[u11, .slice za zn zc] wr fun e w' => e = .returned (.bool true) ∧ ∃ n, w' = wr.drewN n from by
                  have := same_any _ _ P z wr HV.out (HK2.out.below (HW5.out.trans (HW.out.mono HW5.out.size))) (by rw [HP.out.2.1]; omega) HZ6.out
                  rwa [decide_eq_true hPz] at this)
                have HBB := Lib.hid (HB5.out.trans (HW.out.mono HB5.out.size))
                clear hid hPz HP HV
                go_wp2_with fail
                refine HSm.out.mono ?_
                rintro e w7 ⟨rfl, j, rfl⟩
                have HB7 := Lib.hid (HBB.out.trans ((below_drewN' (Below.refl wr.heap.size wr) j).mono HBB.out.size))
                generalize wr.drewN j = w7 at *
                clear HSm
                go_wp2_with fail
                refine (alive_any _).mono ?_
                rintro e w8 ⟨rfl, hb⟩
                have HB8 := Lib.hid (HB7.out.trans (hb.mono HB7.out.size))
                clear hb
                go_wp2_with fail
                go_ret
                exact ⟨rfl, HB8.out⟩
end Go.Proofs.Ytjnjhfificpbbaa
