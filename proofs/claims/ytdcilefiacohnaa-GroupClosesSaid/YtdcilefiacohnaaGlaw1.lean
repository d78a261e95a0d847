/- GroupCloses. -/
import Derived.Test.YtdcilefiacohnaaGfr
import Derived.Test.YtdcilefiacohnaaRCL
namespace Go.Proofs.Ytdcilefiacohnaa
open Go Go.RowKit

theorem rl_get {n : Nat} {s : List Int} {i : Nat} (hi : i < (rl n s).length) : ((rl n s).getD i []).length = n :=
  rl_len s _ (by rw [List.getD_eq_getElem?_getD, List.getElem?_eq_getElem hi]; exact List.getElem_mem hi)

set_option maxRecDepth 100000 in
set_option maxHeartbeats 2000000 in
theorem closes_law (v : Value) (gs : List (List Int)) (w : World) (h : InPs w v gs) :
    Calls Try.prog 3 #[v] w fun e w' => e = .returned (.bool true) ∧ Below w.heap.size w w' := by
  have HI := Lib.hid h
  obtain ⟨⟨a, cap, rfl, _⟩, _, _⟩ := h
  obtain ⟨m, hm⟩ : ∃ m, m = gs.length := ⟨_, rfl⟩
  have HM := Lib.hid hm
  rw [← hm] at HI ⊢
  clear hm
  go_enter Try.func3, Try.ntmps3
  go_wp2_with fail
  refine (few_any _ gs 60 _ HI.out (by decide)).mono ?_
  rintro e w1 ⟨r, rfl, hs, rfl⟩
  have HS := Lib.hid hs
  clear hs
  cases r with
  | false =>
    clear HS
    go_wp2_with fail
    refine (alive_any _).mono ?_
    rintro e w2 ⟨rfl, hb⟩
    have HB := Lib.hid hb
    clear hb
    go_wp2_with fail
    go_ret
    exact ⟨rfl, HB.out⟩
  | true =>
    have HF := Lib.hid (HS.out.1 rfl)
    have HX := Lib.hid (show ∀ i, i < gs.length → (gs.getD i []).length ≤ 1000000 from fun i hi => Nat.le_trans (HF.out.2 i hi) (by decide))
    clear HS
    go_wp2_with fail
    refine (refGens_any _ gs _ HI.out.1 HX.out).mono ?_
    rintro e w2 ⟨r, rfl, hs, hb2⟩
    have HS := Lib.hid hs
    have HB2 := Lib.hid hb2
    have HI2 := Lib.hid (HI.out.1.below hb2)
    clear hs hb2
    cases r with
    | false =>
      have HN := Lib.hid (show ¬ GenP gs from fun hp => by have := HS.out.2 hp; cases this)
      clear HS
      go_wp2_with fail
      refine (Close_any _ gs _ HI2.out HX.out).mono ?_
      rintro e w3 ⟨hb3, hcase⟩
      obtain ⟨_, rfl⟩ := hcase.resolve_right (fun h => HN.out h.1)
      clear hcase
      have HB3 := Lib.hid (HB2.out.trans (hb3.mono HB2.out.size))
      clear hb3
      go_wp2_with fail
      refine (alive_any _).mono ?_
      rintro e w4 ⟨rfl, hb4⟩
      have HB4 := Lib.hid (HB3.out.trans (hb4.mono HB3.out.size))
      clear hb4
      go_wp2_with fail
      go_ret
      exact ⟨rfl, HB4.out⟩
    | true =>
      have HG := Lib.hid (HS.out.1 rfl)
      clear HS
      go_wp2_with fail
      refine (refClose_any _ gs _ HI2.out HG.out).mono ?_
      rintro e w3 ⟨x, s, rfl, ho, hmem, hb3⟩
      have HB3 := Lib.hid (HB2.out.trans (hb3.mono HB2.out.size))
      have HI3 := Lib.hid (HI2.out.below hb3)
      have HO := Lib.hid ho
      have HMem := Lib.hid hmem
      clear ho hmem hb3
      go_wp2_with fail
      refine (Close_any _ gs _ HI3.out HX.out).mono ?_
      rintro e w4 ⟨hb4, ⟨hf, _⟩ | ⟨_, y, L, rfl, hp, hnd, hL⟩⟩
      · exact absurd HG.out hf
      obtain ⟨L', p1, p2, p3⟩ := hp
      have hv0 := (validL_iff _).1 (HG.out.2.2 0 HG.out.1).1
      have he : L'.map (List.take (gs.getD 0 []).length) = rl (gs.getD 0 []).length s := perms_rl hv0.1 hv0.2.1 p1 p2 hnd (fun a ha => gen_pk HG.out ((hL a).1 ha)) (fun p hv hl => (HMem.out p hv hl).trans (hL _).symm)
      rw [he] at p3
      have hcount := rl_count (n := (gs.getD 0 []).length) s
      have hf7 := (fact_le _ hv0.2.1).2
      have HSame := Lib.hid (show Calls Try.prog 18 #[y, x] w4 fun e w' => e = .returned (.bool true) ∧ Below w4.heap.size w4 w' from
        (refSame_any y x _ _ w4 p3.sps (HO.out.sps.below hb4) (by omega) (fun i hi => by rw [rl_get hi]; omega) (fun i hi => by rw [rl_get hi]; omega)).mono fun e w' ⟨r, he, hr, hb⟩ => ⟨by rw [he, hr.2 rfl], hb⟩)
      have HB4 := Lib.hid (HB3.out.trans (hb4.mono HB3.out.size))
      obtain ⟨ya, yc, rfl, _⟩ := p3.sps
      obtain ⟨xa, xc, rfl, _⟩ := HO.out.sps
      clear hb4 p1 p2 p3 hnd hL hv0 he hcount hf7
      go_wp2_with fail
      refine HSame.out.mono ?_
      rintro e w5 ⟨rfl, hb5⟩
      have HB5 := Lib.hid (HB4.out.trans (hb5.mono HB4.out.size))
      clear hb5
      go_wp2_with fail
      refine (alive_any _).mono ?_
      rintro e w6 ⟨rfl, hb6⟩
      have HB6 := Lib.hid (HB5.out.trans (hb6.mono HB5.out.size))
      clear hb6
      go_wp2_with fail
      go_ret
      exact ⟨rfl, HB6.out⟩
end Go.Proofs.Ytdcilefiacohnaa
