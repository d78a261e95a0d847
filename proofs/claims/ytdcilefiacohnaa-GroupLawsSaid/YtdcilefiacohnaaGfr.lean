/- What a list of permutations that came in reads as; the laws' few. -/
import Derived.Test.YtdcilefiacohnaaALV
import Derived.Deep.Matrix
namespace Go.Proofs.Ytdcilefiacohnaa
open Go Go.RowKit Go.Deep
open Go.ChangeShapes Go.WideShapes

/-- lists of permutations as they come in: whatever lengths Go allows -/
def InPs (w : World) (v : Value) (gs : List (List Int)) : Prop := Sps w v gs ∧ gs.length ≤ 9223372036854775807 ∧ ∀ i, i < gs.length → (gs.getD i []).length ≤ 9223372036854775807

theorem cells32 : Try.prog.cellsOf 32 = 1 := by kernel_rfl
theorem cells3 : Try.prog.cellsOf 3 = 1 := by kernel_rfl
theorem in_ps {H : Type} {enc : TypeId × Value → H} {W : World} {a : Option Addr} {len cap : Nat} {d : DataW H} {p : List MemPlace} (h : DataW.Trod enc Try.prog W 0 (fun _ => true) true 22 (.slice a len cap) d p) : ∃ gs, InPs W (.slice a len cap) gs := by
  obtain ⟨fuel, hf⟩ := h
  rcases open_int_rows Try.underlying22 Try.underlying32 Try.underlying3 cells32 cells3 hf with ⟨hcs, _⟩ | ⟨ad, l, c, A, L, C, Z, hcs, _, hl, hm, _, hr⟩
  · simp [Value.cells] at hcs
    obtain ⟨rfl, rfl, rfl⟩ := hcs
    exact ⟨[], ⟨none, 0, rfl, .inl rfl⟩, Nat.zero_le _, fun i hi => by simp at hi⟩
  · simp [Value.cells] at hcs
    obtain ⟨rfl, rfl, rfl⟩ := hcs
    have hm' : cap ≤ 9223372036854775807 := hm
    have hlen : ∀ r, r < len → ((Z r).take (L r)).length = L r := fun r hr' => by
      obtain ⟨_, h1, _, h2, _⟩ := hr r (by omega)
      rw [List.length_take]; omega
    have hget : ∀ i, i < len → ((List.range len).map fun r => (Z r).take (L r)).getD i [] = (Z i).take (L i) := fun i hi => by simp [hi]
    refine ⟨(List.range len).map fun r => (Z r).take (L r), ?_, by rw [List.length_map, List.length_range]; omega, fun i hi => ?_⟩
    · refine ⟨some ad, cap, by rw [List.length_map, List.length_range], ?_⟩
      by_cases h0 : len = 0
      · subst h0; exact .inl rfl
      · refine .inr ?_
        obtain ⟨b, off, spot⟩ := ad
        have hs : spot = none := by simpa [Addr.add] using World.cell?_spot (hr 0 (by omega)).1
        subst hs
        refine ⟨b, off, rfl, fun i hi => ?_⟩
        rw [List.length_map, List.length_range] at hi
        obtain ⟨e1, h1, h2, h3, _, h4, h5⟩ := hr i (by omega)
        refine ⟨_, by rw [← add_plain]; exact e1, ?_⟩
        rw [hget i hi]
        refine ⟨A i, C i, by rw [hlen i hi], ?_⟩
        by_cases hz : L i = 0
        · exact .inl (by rw [hz, List.take_zero])
        · cases hA : A i with
          | none => have := h4 hA; omega
          | some a' =>
            obtain ⟨_, h6⟩ := h5 a' hA
            obtain ⟨b', o', s'⟩ := a'
            have hs : s' = none := by simpa [Addr.add] using World.cell?_spot (h6 0 (by omega))
            subst hs
            refine .inr ⟨b', o', rfl, fun j hj => ?_⟩
            rw [hlen i hi] at hj
            rw [← add_plain, h6 j (by omega)]
            simp [List.getD_eq_getElem?_getD, List.getElem?_take_of_lt hj]
    · rw [List.length_map, List.length_range] at hi
      rw [hget i hi, hlen i hi]
      obtain ⟨_, h1, h2, _⟩ := hr i (by omega)
      have : C i ≤ 9223372036854775807 := h2
      omega
theorem in_p {H : Type} {enc : TypeId × Value → H} {W : World} {a : Option Addr} {len cap : Nat} {d : DataW H} {p : List MemPlace} (h : DataW.Trod enc Try.prog W 0 (fun _ => true) true 32 (.slice a len cap) d p) : ∃ z, Sl W (.slice a len cap) z ∧ z.length ≤ 9223372036854775807 := by
  obtain ⟨fuel, hf⟩ := h
  rcases open_ints Try.underlying32 Try.underlying3 cells3 hf with ⟨hcs, _⟩ | ⟨x, l, c, zs, hcs, _, hl, hm, hz, _, hcell, _⟩
  · simp [Value.cells] at hcs
    obtain ⟨rfl, rfl, rfl⟩ := hcs
    exact ⟨[], Sl.nil _, Nat.zero_le _⟩
  · simp [Value.cells] at hcs
    obtain ⟨rfl, rfl, rfl⟩ := hcs
    have hz' : zs.length = cap := by simpa using hz
    have hm' : cap ≤ 9223372036854775807 := hm
    have hlen : (zs.take len).length = len := by rw [List.length_take]; omega
    refine ⟨zs.take len, ⟨some x, cap, by rw [hlen], ?_⟩, by rw [hlen]; omega⟩
    by_cases h0 : len = 0
    · subst h0; exact .inl rfl
    · obtain ⟨b, off, spot⟩ := x
      have hs : spot = none := by simpa [Addr.add] using World.cell?_spot (hcell 0 (by omega))
      subst hs
      refine .inr ⟨b, off, rfl, fun j hj => ?_⟩
      rw [hlen] at hj
      rw [← add_plain, hcell j (by omega)]
      simp [List.getD_eq_getElem?_getD, List.getElem?_take_of_lt hj]

/-- at most so many lists, of at most 100 points each -/
def FewP (gs : List (List Int)) (most : Nat) : Prop := gs.length ≤ most ∧ ∀ i, i < gs.length → (gs.getD i []).length ≤ 100

set_option maxRecDepth 100000 in
set_option maxHeartbeats 1000000 in
theorem few_any (v : Value) (gs : List (List Int)) (most : Nat) (w : World) (h : InPs w v gs) (hm : most ≤ 1000000) :
    Calls Try.prog 13 #[v, .int .i64 most] w fun e w' => ∃ r, e = .returned (.bool r) ∧ Says r (FewP gs most) ∧ w' = w := by
  obtain ⟨⟨a, cap, rfl, h⟩, hl, hx⟩ := h
  obtain ⟨n, hn⟩ : ∃ n, n = gs.length := ⟨_, rfl⟩
  have HN := Lib.hid hn
  rw [← hn] at hl ⊢
  by_cases h1 : most < n
  · have HS := Lib.hid (show Says false (FewP gs most) from Says.no fun hp => by have := hp.1; omega)
    clear h hx hn
    go_enter Try.func13, Try.ntmps13
    go_wp2_with fail
    go_ret
    exact ⟨false, rfl, HS.out, rfl⟩
  have HC := Lib.hid h
  have HX := Lib.hid hx
  clear h hx hn
  go_enter Try.func13, Try.ntmps13
  go_wp2_with fail
  go_loop [5] (fun i => ∃ k : Nat, i = .int .i64 k ∧ k ≤ n ∧ Hid (∀ i, i < k → (gs.getD i []).length ≤ 100)) (fun i => n - (intOf i).toNat)
  case atStart => exact ⟨0, rfl, Nat.zero_le _, Lib.hid (fun i hi => by omega)⟩
  case round =>
    obtain ⟨k, rfl, hk, HT⟩ := hrel
    by_cases hlt : k < n
    · rcases HC.out with h | ⟨b, off, rfl, h⟩
      · have := HN.out; rw [h] at this; simp at this; omega
      obtain ⟨x, g1, s1⟩ := h k (by rw [← HN.out]; exact hlt)
      obtain ⟨xa, xc, rfl, _⟩ := s1
      have hxk := HX.out k (by rw [← HN.out]; exact hlt)
      obtain ⟨m, hm0⟩ : ∃ m, m = (gs.getD k []).length := ⟨_, rfl⟩
      rw [← hm0] at g1 hxk
      have HM := Lib.hid hm0
      have HLt := Lib.hid hlt
      clear h hm0
      by_cases h100 : 100 < m
      · have HS := Lib.hid (show Says false (FewP gs most) from Says.no fun hp => by
          have := hp.2 k (by rw [← HN.out]; exact HLt.out)
          rw [← HM.out] at this; omega)
        go_wp2_with fail
        go_ret
        exact .inl ⟨rfl, HS.out, rfl⟩
      · have HT2 := Lib.hid (show ∀ i, i < k + 1 → (gs.getD i []).length ≤ 100 from fun i hi => by
          by_cases e : i = k
          · subst e; rw [← HM.out]; omega
          · exact HT.out i (by omega))
        go_wp2_with fail
        go_round
        case rel => exact ⟨k + 1, by go_num, by omega, HT2⟩
        case measure => simp [intOf]; omega
    · have HS := Lib.hid (show Says true (FewP gs most) from Says.yes ⟨by rw [← HN.out]; omega, fun i hi => HT.out i (by rw [← HN.out] at hi; omega)⟩)
      go_wp2_with fail
      go_ret
      exact .inr ⟨rfl, HS.out, rfl⟩
end Go.Proofs.Ytdcilefiacohnaa
