/- The walks of the statements' own functions, first part: PermMuls. -/
import Derived.Test.YtcnkegcogepimaaProg
import Derived.Test.YtcnkegcogepimaaBase
import Derived.Test.YtcnkegcogepimaaRef
import Derived.Test.YtcnkegcogepimaaPair
import Derived.Test.YtcnkegcogepimaaAlive
namespace Go.Proofs.Ytcnkegcogepimaa
open Go.RowKit

/-- what the rows' frame says of a slice that came in, in my words -/
theorem sl_of_row {w : World} {a : Option Addr} {len cap : Nat} {zs : List Int}
    (h : (a = none ∧ len = 0 ∧ cap = 0 ∧ zs = []) ∨ ∃ x, a = some x ∧ len ≤ cap ∧ cap ≤ maxLen ∧ zs.length = cap ∧ (∀ i, i < zs.length → w.cell? (x.add i) = some (.int .i64 (zs.getD i 0))) ∧ ∀ n ∈ zs, (Lit.int .i64 n).wf = true) :
    Sl w (.slice a len cap) (zs.take len) := by
  rcases h with ⟨rfl, rfl, rfl, rfl⟩ | ⟨x, rfl, hl, _, hz, hc, _⟩
  · exact ⟨none, 0, rfl, .inl rfl⟩
  · have hlen : (zs.take len).length = len := by rw [List.length_take]; omega
    refine ⟨some x, cap, by rw [hlen], ?_⟩
    rcases Nat.eq_zero_or_pos len with h0 | h0
    · subst h0; exact .inl (by simp)
    · obtain ⟨b, off, sp⟩ := x
      have hsp : sp = none := by
        have h := hc 0 (by omega)
        unfold World.cell? Addr.add at h
        cases sp with
        | none => rfl
        | some s => simp at h; split at h <;> simp at h
      subst hsp
      refine .inr ⟨b, off, rfl, fun i hi => ?_⟩
      rw [hlen] at hi
      have := hc i (by omega)
      rw [show (zs.take len).getD i 0 = zs.getD i 0 from by simp [hi], ← Addr.add_lit]
      exact this

theorem sls_one (w : World) (a : Option Addr) (n c : Nat) : Sls (w.alloc (.cells #[.slice a n c] 23)) (.slice (some ⟨w.heap.size, 0, none⟩) 1 1) [.slice a n c] := by
  have hB := Blk.new w 23 #[.slice a n c]
  refine ⟨w.heap.size, 0, 1, rfl, fun i hi => ?_⟩
  match i, hi with
  | 0, _ => exact ⟨by rw [hB.cell 0]; rfl, a, n, c, rfl⟩
theorem sls_two (w : World) (a b : Option Addr) (n c m d : Nat) : Sls (w.alloc (.cells #[.slice a n c, .slice b m d] 23)) (.slice (some ⟨w.heap.size, 0, none⟩) 2 2) [.slice a n c, .slice b m d] := by
  have hB := Blk.new w 23 #[.slice a n c, .slice b m d]
  refine ⟨w.heap.size, 0, 2, rfl, fun i hi => ?_⟩
  match i, hi with
  | 0, _ => exact ⟨by rw [hB.cell 0]; rfl, a, n, c, rfl⟩
  | 1, _ => exact ⟨by rw [hB.cell 1]; rfl, b, m, d, rfl⟩
theorem short_two {a b : Option Addr} {n c m d : Nat} (h : n ≤ 100 ∧ m ≤ 100) : shortB [.slice a n c, .slice b m d] = true := shortB_yes fun i hi => by
  match i, hi with
  | 0, _ => exact h.1
  | 1, _ => exact h.2
theorem short_two_no {a b : Option Addr} {n c m d : Nat} (h : ¬ (n ≤ 100 ∧ m ≤ 100)) : shortB [.slice a n c, .slice b m d] = false := by
  by_cases h1 : n ≤ 100
  · exact shortB_no (i := 1) (by simp) (by show ¬ m ≤ 100; omega)
  · exact shortB_no (i := 0) (by simp) h1

set_option maxHeartbeats 1000000 in
theorem muls_law (v1 v2 : Value) (p q : List Int) (w : World) (h1 : Sl w v1 p) (h2 : Sl w v2 q) :
    Calls Try.prog 5 #[v1, v2] w fun e w' => e = .returned (.bool true) ∧ Below w.heap.size w w' := by
  have H1 := Lib.hid h1
  have H2 := Lib.hid h2
  obtain ⟨a, ca, rfl, _⟩ := h1
  obtain ⟨b, cb, rfl, _⟩ := h2
  have hs := sls_two w a b p.length ca q.length cb
  have HS := Lib.hid hs
  have B0 := Lib.hid ((Below.refl _ w).alloc (Nat.le_refl _) (.cells #[.slice a p.length ca, .slice b q.length cb] 23))
  clear hs
  by_cases hsh : p.length ≤ 100 ∧ q.length ≤ 100
  · have HB := Lib.hid (short_two (a := a) (b := b) (c := ca) (d := cb) hsh)
    obtain ⟨hp0, hq0⟩ := hsh
    have hp : p.length ≤ 1000000 := by omega
    have hq : q.length ≤ 1000000 := by omega
    by_cases he : errP p q = 0
    · have HE := Lib.hid he
      obtain ⟨g1, g2, g3⟩ := errP_zero he
      have HR := Lib.hid (show inR p q.length from by have := inR_of_valid g1; rwa [g3] at this)
      have HM := Lib.hid (show mulE p q = mulL p q from if_pos he)
      have HC := Lib.hid (show commE p q = commL p q from if_pos he)
      have hlm : (mulL p q).length ≤ 1000000 := by rw [length_mulL]; exact hp
      have hlc : (commL p q).length ≤ 1000000 := by unfold commL; rw [length_mulL, length_mulL, length_invL]; exact hp
      clear he g1 g2 g3
      go_enter Try.func5, Try.ntmps5
      go_wp2_with fail
      refine (short_any _ _ _ HS.out (by simp)).mono ?_
      rintro e w1 ⟨rfl, rfl⟩
      rw [HB.out]
      go_wp2_with fail
      refine (refalike_any _ _ p q _ (H1.out.below B0.out) (H2.out.below B0.out) hp hq).mono ?_
      rintro e w1 ⟨rfl, n1, rfl⟩
      rw [HE.out]
      have B1 := Lib.hid (below_drewN' B0.out n1)
      go_wp2_with fail
      refine (refmul_any _ _ p q _ (H1.out.below B1.out) (H2.out.below B1.out) hp hq HR.out).mono ?_
      rintro e w2 ⟨x1, rfl, O1, b2⟩
      have O1 := Lib.hid O1
      have B2 := Lib.hid (B1.out.trans (b2.mono B1.out.size))
      clear b2
      go_wp2_with fail
      refine (refcomm_any _ _ p q _ (H1.out.below B2.out) (H2.out.below B2.out) HE.out).mono ?_
      rintro e w3 ⟨x2, rfl, O2, b3⟩
      have O1 := Lib.hid (O1.out.below b3)
      have O2 := Lib.hid O2
      have B3 := Lib.hid (B2.out.trans (b3.mono B2.out.size))
      clear b3
      go_wp2_with fail
      refine (Mul_any _ _ p q _ (H1.out.below B3.out) (H2.out.below B3.out) hp hq).mono ?_
      rintro e w4 ⟨x3, rfl, O3, b4⟩
      rw [HE.out]
      rw [HM.out] at O3
      have O1 := Lib.hid (O1.out.below b4)
      have O2 := Lib.hid (O2.out.below b4)
      have O3 := Lib.hid O3
      have B4 := Lib.hid (B3.out.trans (b4.mono B3.out.size))
      clear b4
      go_wp2_with fail
      refine (Comm_any _ _ p q _ (H1.out.below B4.out) (H2.out.below B4.out) hp hq).mono ?_
      rintro e w5 ⟨x4, rfl, O4, b5⟩
      rw [HE.out]
      rw [HC.out] at O4
      have O1 := Lib.hid (O1.out.below b5)
      have O2 := Lib.hid (O2.out.below b5)
      have O3 := Lib.hid (O3.out.below b5)
      have O4 := Lib.hid O4
      have B5 := Lib.hid (B4.out.trans (b5.mono B4.out.size))
      clear b5
      go_wp2_with fail
      refine (is_ok _ _ _ _ O3.out.sl O1.out.sl hlm).mono ?_
      rintro e w6 ⟨rfl, n6, rfl⟩
      have B6 := Lib.hid (below_drewN' B5.out n6)
      have O2 := Lib.hid (O2.out.drewN n6)
      have O4 := Lib.hid (O4.out.drewN n6)
      go_wp2_with fail
      refine (is_ok _ _ _ _ O4.out.sl O2.out.sl hlc).mono ?_
      rintro e w7 ⟨rfl, n7, rfl⟩
      have B7 := Lib.hid (below_drewN' B5.out (n6 + n7))
      go_wp2_with fail
      refine (alive_any _).mono ?_
      rintro e w8 ⟨rfl, b8⟩
      have B8 := Lib.hid (B7.out.trans (b8.mono B7.out.size))
      go_wp2
      go_ret
      exact ⟨rfl, B8.out⟩
    · have HM := Lib.hid (show mulE p q = [] from if_neg he)
      have HC := Lib.hid (show commE p q = [] from if_neg he)
      have hne : (errP p q == 0) = false := by simp [he]
      have HN := Lib.hid he
      obtain ⟨E, hE⟩ : ∃ E, E = errP p q := ⟨_, rfl⟩
      rw [← hE] at hne
      have HE := Lib.hid hE
      clear he hE
      go_enter Try.func5, Try.ntmps5
      go_wp2_with fail
      refine (short_any _ _ _ HS.out (by simp)).mono ?_
      rintro e w1 ⟨rfl, rfl⟩
      rw [HB.out]
      go_wp2_with fail
      refine (refalike_any _ _ p q _ (H1.out.below B0.out) (H2.out.below B0.out) hp hq).mono ?_
      rintro e w1 ⟨rfl, n1, rfl⟩
      rw [← HE.out]
      have B3 := Lib.hid (below_drewN' B0.out n1)
      go_wp2_with fail
      refine (Mul_any _ _ p q _ (H1.out.below B3.out) (H2.out.below B3.out) hp hq).mono ?_
      rintro e w4 ⟨x3, rfl, O3, b4⟩
      rw [← HE.out]
      rw [HM.out] at O3
      have O3 := Lib.hid O3
      have B4 := Lib.hid (B3.out.trans (b4.mono B3.out.size))
      clear b4
      go_wp2_with fail
      refine (Comm_any _ _ p q _ (H1.out.below B4.out) (H2.out.below B4.out) hp hq).mono ?_
      rintro e w5 ⟨x4, rfl, O4, b5⟩
      rw [← HE.out]
      rw [HC.out] at O4
      have O3 := Lib.hid (O3.out.below b5)
      have O4 := Lib.hid O4
      have B5 := Lib.hid (B4.out.trans (b5.mono B4.out.size))
      clear b5
      go_wp2_with fail
      refine (is_bad _ _ _ _ O3.out.sl (by rw [HE.out]; exact HN.out)).mono ?_
      rintro e w6 ⟨rfl, rfl⟩
      go_wp2_with fail
      refine (is_bad _ _ _ _ O4.out.sl (by rw [HE.out]; exact HN.out)).mono ?_
      rintro e w7 ⟨rfl, rfl⟩
      go_wp2_with fail
      refine (alive_any _).mono ?_
      rintro e w8 ⟨rfl, b8⟩
      have B8 := Lib.hid (B5.out.trans (b8.mono B5.out.size))
      go_wp2
      go_ret
      exact ⟨rfl, B8.out⟩
  · have HB := Lib.hid (short_two_no (a := a) (b := b) (c := ca) (d := cb) hsh)
    clear hsh
    go_enter Try.func5, Try.ntmps5
    go_wp2_with fail
    refine (short_any _ _ _ HS.out (by simp)).mono ?_
    rintro e w1 ⟨rfl, rfl⟩
    rw [HB.out]
    go_wp2_with fail
    refine (alive_any _).mono ?_
    rintro e w2 ⟨rfl, b2⟩
    have B2 := Lib.hid (B0.out.trans (b2.mono B0.out.size))
    clear b2
    go_wp2
    go_ret
    exact ⟨rfl, B2.out⟩

end Go.Proofs.Ytcnkegcogepimaa
