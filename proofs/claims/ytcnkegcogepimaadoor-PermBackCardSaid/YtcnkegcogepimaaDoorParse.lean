/- perm.Parse, by its meaning. -/
import Derived.Test.YtcnkegcogepimaaDoorProg
import Derived.Test.YtcnkegcogepimaaDoorBase
import Derived.Test.YtcnkegcogepimaaDoorMul
import Derived.Test.YtcnkegcogepimaaDoorRText
import Derived.Test.YtcnkegcogepimaaDoorPCyc
namespace Go.Proofs.YtcnkegcogepimaaDoor
open Go.RowKit

theorem pcGo_len {n : Nat} : ∀ (s : List UInt8) (bf : UInt8) (acc met : List Int) (r : List UInt8) (c m : List Int), pcGo n s bf acc met = some (r, c, m) → r.length + 3 ≤ s.length
  | [], _, _, _, _, _, _, h => by simp [pcGo] at h
  | [_], _, _, _, _, _, _, h => by simp [pcGo] at h
  | [_, _], _, _, _, _, _, _, h => by simp [pcGo] at h
  | b0 :: b1 :: b2 :: t, bf, acc, met, r, c, m, h => by
    rw [pcGo] at h
    split at h
    · split at h
      · cases h
      · split at h
        · simp only [Option.some.injEq, Prod.mk.injEq] at h
          rw [← h.1]; simp
        · have := pcGo_len (b2 :: t) _ _ _ _ _ _ h
          simp at this ⊢
          omega
    · cases h
theorem long_idL (n : Nat) : longL (idL n) = [] := by
  unfold longL
  rw [List.filter_eq_nil_iff]
  intro c hc
  obtain ⟨k, hk, rfl⟩ := cyc_mem hc
  have hlt := (st_spec hk).1
  rw [length_idL] at hlt
  have h1 : sq (idL n) (st (idL n) k) 1 = st (idL n) k := im_idL (n := n) (x := ((st (idL n) k : Nat) : Int)) (by omega) (by omega)
  have hp : per (idL n) (st (idL n) k) = 1 := by
    unfold per
    have h0 : ((List.range (idL n).length).find? fun i => sq (idL n) (st (idL n) k) (i + 1) == ((st (idL n) k : Nat) : Int)) = some 0 := by
      rw [length_idL]
      obtain ⟨m, rfl⟩ : ∃ m, n = m + 1 := ⟨n - 1, by omega⟩
      rw [List.range_succ_eq_map, List.find?_cons_of_pos]
      simp [h1]
    rw [h0]; rfl
  rw [length_cyL, hp]
  simp
theorem txt_idL (n : Nat) : txt (idL n) = [40, 41] := by unfold txt; rw [if_pos (long_idL n)]

/-- no permutation has the text s, where the reading fails or ends otherwise -/
theorem no_txt {m : Nat} {s : List UInt8} (hne : s ≠ [40, 41]) {o : Option (List Int)} (h : pGo m s.length s (idL m) [] = o) {q : List Int} (hq : validL q = true) (hl : q.length = m) (ht : txt q = s) : o = some q := by
  have hlong : longL q ≠ [] := fun e => hne (by rw [← ht]; unfold txt; rw [if_pos e])
  have := pGo_txt hq hlong s.length (by rw [ht]; exact Nat.le_refl _)
  rw [ht, hl, h] at this
  exact this

def prEnd (B : Nat) (w' : World) (e : Ending) : Option (List Int) → Prop
  | none => e = .returned (.tuple #[.slice none 0 0, .int .i64 3])
  | some q => ∃ v, e = .returned (.tuple #[v, .int .i64 0]) ∧ Ow B w' v q

set_option maxHeartbeats 400000 in
theorem Identity_blk (n : Nat) (w : World) (h1 : 1 ≤ n) (h7 : n ≤ 7) :
    Calls Tryd.prog 29 #[.int .i64 n] w fun e w' => e = .returned (.tuple #[.slice (some ⟨w.heap.size, 0, none⟩) n n, .int .i64 0]) ∧ Blk w' w.heap.size 3 (ints (idL n)) ∧ Below w.heap.size w w' := by
  go_enter Tryd.func29, Tryd.ntmps29
  go_wp2_with fail
  refine (identity_blk n _ (by omega)).mono ?_
  rintro e w1 ⟨rfl, hB, b1⟩
  have HB := Lib.hid hB
  clear hB
  go_wp2
  go_ret2
  exact ⟨rfl, HB.out, b1⟩

set_option maxHeartbeats 400000 in
theorem Identity_bad (n : Int) (w : World) (h : n < 1 ∨ 7 < n) :
    Calls Tryd.prog 29 #[.int .i64 n] w fun e w' => e = .returned (.tuple #[.slice none 0 0, .int .i64 2]) ∧ w = w' := by
  rcases h with h | h
  · go_enter Tryd.func29, Tryd.ntmps29
    go_wp2
    go_ret2
    exact ⟨rfl, rfl⟩
  · have h1 : ¬ n < 1 := by omega
    go_enter Tryd.func29, Tryd.ntmps29
    go_wp2
    go_ret2
    exact ⟨rfl, rfl⟩

set_option maxHeartbeats 400000 in
theorem pparse_bad (s : List UInt8) (n : Int) (w : World) (h : n < 1 ∨ 7 < n) :
    Calls Tryd.prog 12 #[.string (strB s), .int .i64 n] w fun e w' => e = .returned (.tuple #[.slice none 0 0, .int .i64 2]) ∧ w = w' := by
  go_enter Tryd.func12, Tryd.ntmps12
  go_wp2_with fail
  refine (Identity_bad n _ h).mono ?_
  rintro e w1 ⟨rfl, rfl⟩
  go_wp2
  go_ret2
  exact ⟨rfl, rfl⟩

theorem loop_strB (l : List UInt8) : ∀ (k i : Nat) (r : List UInt8), l.length - i = k → ByteArray.toList.loop (strB l) i r = r.reverse ++ l.drop i := by
  intro k
  induction k with
  | zero =>
    intro i r h
    rw [ByteArray.toList.loop.eq_1, if_neg (by rw [size_strB]; omega), List.drop_of_length_le (by omega), List.append_nil]
  | succ k ih =>
    intro i r h
    have hi : i < l.length := by omega
    have hg : (strB l).get! i = l[i] := by
      show (l.toArray)[i]! = l[i]
      simp [hi]
    rw [ByteArray.toList.loop.eq_1, if_pos (by rw [size_strB]; exact hi), ih (i + 1) _ (by omega), hg, List.drop_eq_getElem_cons hi]
    simp
theorem toList_strB (l : List UInt8) : (strB l).toList = l := (loop_strB l (l.length - 0) 0 [] rfl).trans (by simp)

set_option maxRecDepth 100000 in
set_option maxHeartbeats 4000000 in
theorem pparse_ok (s : List UInt8) (m : Nat) (w : World) (h1 : 1 ≤ m) (h7 : m ≤ 7) (hs : s.length ≤ 2000) :
    Calls Tryd.prog 12 #[.string (strB s), .int .i64 m] w fun e w' => (∃ o, prs m s o ∧ prEnd w.heap.size w' e o) ∧ Below w.heap.size w w' := by
  by_cases hse : s = [40, 41]
  · have hsb : (s == [40, 41]) = true := by rw [beq_iff_eq]; exact hse
    have htl := toList_strB s
    have HP : Hid (prs m s (some (idL m))) := Lib.hid ⟨fun q hq => by
      cases hq
      exact ⟨idL_valid h1 h7, length_idL m, by rw [hse]; exact txt_idL m⟩, fun h => by cases h⟩
    clear hse
    go_enter Tryd.func12, Tryd.ntmps12
    go_wp2_with fail
    refine (Identity_blk m _ h1 h7).mono ?_
    rintro e w1 ⟨rfl, hB, b1⟩
    have HO := Lib.hid (Ow.of_blk hB (Nat.le_refl _) (by rw [length_idL]; omega) m (length_idL m).symm)
    clear hB
    go_wp2
    go_ret2
    exact ⟨⟨_, HP.out, _, rfl, HO.out⟩, b1⟩
  · have hsb : (s == [40, 41]) = false := by rw [beq_eq_false_iff_ne]; exact hse
    have htl := toList_strB s
    have HSE := Lib.hid hse
    clear hse
    go_enter Tryd.func12, Tryd.ntmps12
    go_wp2_with fail
    refine (Identity_blk m _ h1 h7).mono ?_
    rintro e w1 ⟨rfl, hB, b1⟩
    have hsz : w.heap.size < w1.heap.size := hB.lt
    have hB2 := hB.alloc (.cells #[.bool false, .bool false, .bool false, .bool false, .bool false, .bool false, .bool false] 60)
    have hM2 := Blk.new w1 60 #[.bool false, .bool false, .bool false, .bool false, .bool false, .bool false, .bool false]
    rw [← mk_nil] at hM2
    have hb2 := b1.alloc b1.size (.cells #[.bool false, .bool false, .bool false, .bool false, .bool false, .bool false, .bool false] 60)
    have HB := Lib.hid hB2
    have HM := Lib.hid hM2
    have HBW := Lib.hid hb2
    clear hB hB2 hM2 hb2 b1
    go_wp2
    clear hsb
    have hP0 : ∃ P met : List Int, ∃ f : Nat, pGo m f s P met = pGo m s.length s (idL m) [] ∧ s.length ≤ f ∧ P.length = m ∧ Blk (w1.alloc (.cells #[.bool false, .bool false, .bool false, .bool false, .bool false, .bool false, .bool false] 60)) w.heap.size 3 (ints P) ∧ Blk (w1.alloc (.cells #[.bool false, .bool false, .bool false, .bool false, .bool false, .bool false, .bool false] 60)) w1.heap.size 60 (mk met) :=
      ⟨idL m, [], s.length, rfl, Nat.le_refl _, length_idL m, HB.out, HM.out⟩
    have HP0 := Lib.hid hP0
    clear hP0 HB HM
    go_loopw [9, 10] (fun rv okv wr => ∃ s1 : List UInt8, rv = .string (strB s1) ∧ s1.length ≤ 2000 ∧ Hid (∃ P met : List Int, ∃ f : Nat, pGo m f s1 P met = pGo m s.length s (idL m) [] ∧ s1.length ≤ f ∧ P.length = m ∧ Blk wr w.heap.size 3 (ints P) ∧ Blk wr w1.heap.size 60 (mk met)) ∧ Below w.heap.size w wr) (fun rv _ _ => strLen rv)
    case atStart => exact ⟨s, rfl, hs, HP0, HBW.out⟩
    case round =>
      clear HP0 HBW
      obtain ⟨s1, rfl, hl1, hst, hb⟩ := hrel
      obtain ⟨P, met, f, hp1, hp2, hp3, hp4, hp5⟩ := hst.out
      have HP1 := Lib.hid hp1
      have HP4 := Lib.hid hp4
      have HP5 := Lib.hid hp5
      have HP3 := Lib.hid hp3
      have hwr := hb.size
      clear hp1 hp4 hp5 hst
      match s1, hp2, hl1, HP1 with
      | [], hp2, hl1, HP1 =>
        have htl1 := toList_strB []
        have hfin : pGo m s.length s (idL m) [] = some P := by
          rw [← HP1.out]
          cases f <;> rfl
        have HF := Lib.hid hfin
        have hO : Ow w.heap.size wr (.slice (some ⟨w.heap.size, 0, none⟩) m m) P := Ow.of_blk HP4.out (Nat.le_refl _) (by omega) m hp3.symm
        have HO := Lib.hid hO
        have hPl : P.length ≤ 1000000 := by omega
        have htl2 := toList_strB (txtE P)
        clear hfin hO hp3
        by_cases hts : txtE P = s
        · have hv : validL P = true := by
            rcases hv : validL P with _ | _
            · exfalso
              have h0 : txtE P = [] := by unfold txtE; rw [hv]; rfl
              rw [h0] at hts
              have h2 := HF.out
              rw [← hts] at h2
              have h3 : P = idL m := by
                have : some (idL m) = some P := h2
                cases this
                rfl
              rw [h3, idL_valid h1 h7] at hv
              cases hv
            · rfl
          have hpr : prs m s (some P) := ⟨fun q hq => by
            cases hq
            exact ⟨hv, HP3.out, by rw [← hts]; unfold txtE; rw [if_pos hv]⟩, fun h => by cases h⟩
          have HPr := Lib.hid hpr
          have hbe : (txtE P == s) = true := by rw [beq_iff_eq]; exact hts
          clear hts hv hpr
          go_wp2_with fail
          refine (ptext_any _ P _ HO.out.sl hPl).mono ?_
          rintro e w3 ⟨rfl, b3⟩
          have HO3 := Lib.hid (HO.out.below b3)
          have HB3 := Lib.hid (hb.trans (b3.mono hwr))
          clear b3
          go_wp2
          go_ret2
          exact ⟨⟨_, HPr.out, _, rfl, HO3.out⟩, HB3.out⟩
        · have hpr : prs m s none := ⟨fun q hq => (by cases hq), fun _ q hq hl ht => by
            have := no_txt HSE.out HF.out hq hl ht
            cases this
            exact hts (by unfold txtE; rw [if_pos hq]; exact ht)⟩
          have HPr := Lib.hid hpr
          have hbe : (txtE P == s) = false := by rw [beq_eq_false_iff_ne]; exact hts
          clear hts hpr
          go_wp2_with fail
          refine (ptext_any _ P _ HO.out.sl hPl).mono ?_
          rintro e w3 ⟨rfl, b3⟩
          have HB3 := Lib.hid (hb.trans (b3.mono hwr))
          clear b3
          go_wp2
          go_ret2
          exact ⟨⟨_, HPr.out, rfl⟩, HB3.out⟩
      | c0 :: s2, hp2, hl1, HP1 =>
        have htl1 := toList_strB (c0 :: s2)
        obtain ⟨f, rfl⟩ : ∃ g, f = g + 1 := ⟨f - 1, by simp at hp2; omega⟩
        rcases hpc : pcGo m (c0 :: s2) 40 [] met with _ | ⟨r, c, mm⟩
        · have hnone : pGo m s.length s (idL m) [] = none := by rw [← HP1.out, pGo, hpc]
          have hpr : prs m s none := ⟨fun q hq => (by cases hq), fun _ q hq hl ht => by
            have := no_txt HSE.out hnone hq hl ht
            cases this⟩
          have HPr := Lib.hid hpr
          have HPC := Lib.hid hpc
          clear hnone hpr hpc
          go_wp2_with fail
          have hcall := pcycle_any (c0 :: s2) w.heap.size w1.heap.size P met wr HP4.out (by omega) HP5.out hl1
          rw [HP3.out, HPC.out] at hcall
          refine hcall.mono ?_
          clear hcall
          rintro e w3 ⟨h3, t3⟩
          obtain rfl : e = .returned (.tuple #[.string (strB []), .bool false]) := h3
          have HB3 := Lib.hid (below_turns hb t3 (fun b hb2 h => by omega) (Nat.le_refl _))
          clear t3
          go_wp2
          go_ret2
          exact ⟨⟨_, HPr.out, rfl⟩, HB3.out⟩
        · have hnext : pGo m f r (ent P c) mm = pGo m s.length s (idL m) [] := by rw [← HP1.out, pGo, hpc]
          have hrl := pcGo_len _ _ _ _ _ _ _ hpc
          have HNext := Lib.hid hnext
          have HPC := Lib.hid hpc
          clear hnext hpc
          go_wp2_with fail
          have hcall := pcycle_any (c0 :: s2) w.heap.size w1.heap.size P met wr HP4.out (by omega) HP5.out hl1
          rw [HP3.out, HPC.out] at hcall
          refine hcall.mono ?_
          clear hcall
          rintro e w3 ⟨⟨rfl, h3, h4, h5, h6⟩, t3⟩
          have HB3 := Lib.hid (below_turns hb t3 (fun b hb2 h => by omega) (Nat.le_refl _))
          have H3 := Lib.hid h3
          have H4 := Lib.hid h4
          clear t3 h3 h4 h5
          go_wp2
          go_roundw
          case rel => exact ⟨r, rfl, by omega, Lib.hid ⟨ent P c, mm, f, HNext.out, by omega, by rw [length_ent]; exact HP3.out, H3.out, H4.out⟩, HB3.out⟩
          case measure => simp [strLen, size_strB] at hrl ⊢; omega
end Go.Proofs.YtcnkegcogepimaaDoor
