/- GroupForms. -/
import Derived.Test.YtdcilefiacohnaaGbad
namespace Go.Proofs.Ytdcilefiacohnaa
open Go Go.RowKit

theorem Says.same {a b : Bool} {p : Prop} (h : Says a p) (k : Says b p) : a = b := by
  cases a <;> cases b
  · rfl
  · exact (h.2 (k.1 rfl))
  · exact (k.2 (h.1 rfl)).symm
  · rfl

set_option maxRecDepth 100000 in
set_option maxHeartbeats 4000000 in
theorem forms_law (v u : Value) (gs : List (List Int)) (z : List Int) (w : World) (h : InPs w v gs) (hu : Sl w u z ∧ z.length ≤ 9223372036854775807) :
    Calls Try.prog 4 #[v, u] w fun e w' => e = .returned (.bool true) ∧ Below w.heap.size w w' := by
  have HI := Lib.hid h
  obtain ⟨⟨a, cap, rfl, _⟩, _, _⟩ := h
  obtain ⟨m, hm⟩ : ∃ m, m = gs.length := ⟨_, rfl⟩
  have HM := Lib.hid hm
  rw [← hm] at HI ⊢
  obtain ⟨⟨ua, uc, rfl, _⟩, hul⟩ := hu
  obtain ⟨l, hl⟩ : ∃ l, l = z.length := ⟨_, rfl⟩
  rw [← hl] at hul ⊢
  clear hm hl
  go_enter Try.func4, Try.ntmps4
  go_wp2_with fail
  refine (few_any _ gs 400 _ HI.out (by decide)).mono ?_
  rintro e w1 ⟨r, rfl, hs, rfl⟩
  have HS := Lib.hid hs
  clear hs
  cases r with
  | false =>
    clear HS
    go_wp2_with fail
    refine (alive_any _).mono ?_
    rintro e w2 ⟨rfl, hb⟩
    have HB := Lib.hid hb
    clear hb
    go_wp2_with fail
    go_ret
    exact ⟨rfl, HB.out⟩
  | true =>
    have HF := Lib.hid (HS.out.1 rfl)
    have HX := Lib.hid (show ∀ i, i < gs.length → (gs.getD i []).length ≤ 1000000 from fun i hi => Nat.le_trans (HF.out.2 i hi) (by decide))
    clear HS
    by_cases h100 : 100 < l
    · go_wp2_with fail
      refine (alive_any _).mono ?_
      rintro e w2 ⟨rfl, hb⟩
      have HB := Lib.hid hb
      clear hb
      go_wp2_with fail
      go_ret
      exact ⟨rfl, HB.out⟩
    go_wp2_with fail
    refine (refIs_any _ gs _ HI.out.1 HX.out).mono ?_
    rintro e w2 ⟨r, rfl, hs2, hb2⟩
    have HS2 := Lib.hid hs2
    have HB2 := Lib.hid hb2
    have HI2 := Lib.hid (HI.out.1.below hb2)
    clear hs2 hb2
    go_wp2_with fail
    refine (IsValid_any HI2.out HX.out).mono ?_
    rintro e w3 ⟨r', rfl, hs3, hb3⟩
    have HB3 := Lib.hid (HB2.out.trans (hb3.mono HB2.out.size))
    have HI3 := Lib.hid (HI2.out.below hb3)
    have e := HS2.out.same hs3
    subst e
    clear hs3 hb3
    cases r with
    | true =>
      go_wp2_with fail
      refine (alive_any _).mono ?_
      rintro e w4 ⟨rfl, hb4⟩
      have HB4 := Lib.hid (HB3.out.trans (hb4.mono HB3.out.size))
      clear hb4
      go_wp2_with fail
      go_ret
      exact ⟨rfl, HB4.out⟩
    | false =>
      have HN := Lib.hid (show ¬ IsGrp gs from fun hp => by have := HS2.out.2 hp; cases this)
      clear HS2
      go_wp2_with fail
      refine (Derived_any _ gs _ HI3.out HX.out).mono ?_
      rintro e w4 ⟨hb, hc⟩
      obtain ⟨_, rfl⟩ := hc.resolve_right (fun h => HN.out h.1)
      have HB4 := Lib.hid (HB3.out.trans (hb.mono HB3.out.size))
      have HI4 := Lib.hid (HI3.out.below hb)
      clear hb hc HB3 HI3
      go_wp2_with fail
      refine (Series_any _ gs _ HI4.out HX.out).mono ?_
      rintro e w5 ⟨hb, hc⟩
      obtain ⟨_, rfl⟩ := hc.resolve_right (fun h => HN.out h.1)
      have HB5 := Lib.hid (HB4.out.trans (hb.mono HB4.out.size))
      have HI5 := Lib.hid (HI4.out.below hb)
      clear hb hc HB4 HI4
      go_wp2_with fail
      refine (Solvable_any _ gs _ HI5.out HX.out).mono ?_
      rintro e w6 ⟨hb, hc⟩
      obtain ⟨_, rfl⟩ := hc.resolve_right (fun h => HN.out h.1)
      have HB6 := Lib.hid (HB5.out.trans (hb.mono HB5.out.size))
      have HI6 := Lib.hid (HI5.out.below hb)
      clear hb hc HB5 HI5
      go_wp2_with fail
      refine (Normal_bad _ _ _ HI6.out HX.out HN.out).mono ?_
      rintro e w7 ⟨rfl, hb⟩
      have HB7 := Lib.hid (HB6.out.trans (hb.mono HB6.out.size))
      have HI7 := Lib.hid (HI6.out.below hb)
      clear hb HB6 HI6
      go_wp2_with fail
      refine (Center_bad HI7.out HX.out HN.out).mono ?_
      rintro e w8 ⟨rfl, hb⟩
      have HB8 := Lib.hid (HB7.out.trans (hb.mono HB7.out.size))
      have HI8 := Lib.hid (HI7.out.below hb)
      clear hb HB7 HI7
      go_wp2_with fail
      refine (Classes_bad HI8.out HX.out HN.out).mono ?_
      rintro e w9 ⟨rfl, hb⟩
      have HB9 := Lib.hid (HB8.out.trans (hb.mono HB8.out.size))
      have HI9 := Lib.hid (HI8.out.below hb)
      clear hb HB8 HI8
      go_wp2_with fail
      refine (Pairs_bad _ _ _ HI9.out HX.out HN.out).mono ?_
      rintro e w10 ⟨rfl, hb⟩
      have HB10 := Lib.hid (HB9.out.trans (hb.mono HB9.out.size))
      clear hb HB9 HI9
      go_wp2_with fail
      refine (alive_any _).mono ?_
      rintro e w11 ⟨rfl, hb⟩
      have HB11 := Lib.hid (HB10.out.trans (hb.mono HB10.out.size))
      clear hb HB10
      go_wp2_with fail
      go_ret
      exact ⟨rfl, HB11.out⟩
end Go.Proofs.Ytdcilefiacohnaa
