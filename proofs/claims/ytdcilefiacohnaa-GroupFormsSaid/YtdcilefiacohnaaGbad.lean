/- What the program answers where a list is no group; group.Valid. -/
import Derived.Test.YtdcilefiacohnaaRVal
namespace Go.Proofs.Ytdcilefiacohnaa
open Go Go.RowKit

section
variable {ps : List (List Int)} {w : World} {u : Value}

set_option maxHeartbeats 1000000 in
theorem Normal_bad (a : Option Addr) (n c : Nat) (h : Sps w u ps) (hx : ∀ i, i < ps.length → (ps.getD i []).length ≤ 1000000) (hn : ¬ IsGrp ps) :
    Calls Try.prog 24 #[u, .slice a n c] w fun e w' => e = .returned (.tuple #[.bool false, .int .i64 1]) ∧ Below w.heap.size w w' := by
  have HH := Lib.hid h
  have HX := Lib.hid hx
  have HN := Lib.hid hn
  obtain ⟨a', cap, rfl, _⟩ := h
  clear hx hn
  go_enter Try.func24, Try.ntmps24
  go_wp2_with fail
  refine (closedOf_any _ ps _ HH.out HX.out).mono ?_
  rintro e w1 ⟨hb, hc⟩
  obtain ⟨_, rfl⟩ := hc.resolve_right (fun h => HN.out h.1)
  have HB := Lib.hid hb
  clear hb hc
  go_wp2_with fail
  go_ret2
  exact ⟨rfl, HB.out⟩

set_option maxHeartbeats 1000000 in
theorem Center_bad (h : Sps w u ps) (hx : ∀ i, i < ps.length → (ps.getD i []).length ≤ 1000000) (hn : ¬ IsGrp ps) :
    Calls Try.prog 25 #[u] w fun e w' => e = .returned (.tuple #[.slice none 0 0, .int .i64 1]) ∧ Below w.heap.size w w' := by
  have HH := Lib.hid h
  have HX := Lib.hid hx
  have HN := Lib.hid hn
  obtain ⟨a', cap, rfl, _⟩ := h
  clear hx hn
  go_enter Try.func25, Try.ntmps25
  go_wp2_with fail
  refine (closedOf_any _ ps _ HH.out HX.out).mono ?_
  rintro e w1 ⟨hb, hc⟩
  obtain ⟨_, rfl⟩ := hc.resolve_right (fun h => HN.out h.1)
  have HB := Lib.hid hb
  clear hb hc
  go_wp2_with fail
  go_ret2
  exact ⟨rfl, HB.out⟩

set_option maxHeartbeats 1000000 in
theorem Classes_bad (h : Sps w u ps) (hx : ∀ i, i < ps.length → (ps.getD i []).length ≤ 1000000) (hn : ¬ IsGrp ps) :
    Calls Try.prog 26 #[u] w fun e w' => e = .returned (.tuple #[.slice none 0 0, .int .i64 1]) ∧ Below w.heap.size w w' := by
  have HH := Lib.hid h
  have HX := Lib.hid hx
  have HN := Lib.hid hn
  obtain ⟨a', cap, rfl, _⟩ := h
  clear hx hn
  go_enter Try.func26, Try.ntmps26
  go_wp2_with fail
  refine (closedOf_any _ ps _ HH.out HX.out).mono ?_
  rintro e w1 ⟨hb, hc⟩
  obtain ⟨_, rfl⟩ := hc.resolve_right (fun h => HN.out h.1)
  have HB := Lib.hid hb
  clear hb hc
  go_wp2_with fail
  go_ret2
  exact ⟨rfl, HB.out⟩

set_option maxHeartbeats 1000000 in
theorem Pairs_bad (a : Option Addr) (n c : Nat) (h : Sps w u ps) (hx : ∀ i, i < ps.length → (ps.getD i []).length ≤ 1000000) (hn : ¬ IsGrp ps) :
    Calls Try.prog 27 #[u, .slice a n c] w fun e w' => e = .returned (.tuple #[.slice none 0 0, .int .i64 1]) ∧ Below w.heap.size w w' := by
  have HH := Lib.hid h
  have HX := Lib.hid hx
  have HN := Lib.hid hn
  obtain ⟨a', cap, rfl, _⟩ := h
  clear hx hn
  go_enter Try.func27, Try.ntmps27
  go_wp2_with fail
  refine (closedOf_any _ ps _ HH.out HX.out).mono ?_
  rintro e w1 ⟨hb, hc⟩
  obtain ⟨_, rfl⟩ := hc.resolve_right (fun h => HN.out h.1)
  have HB := Lib.hid hb
  clear hb hc
  go_wp2_with fail
  go_ret2
  exact ⟨rfl, HB.out⟩

set_option maxHeartbeats 1000000 in
theorem IsValid_any (h : Sps w u ps) (hx : ∀ i, i < ps.length → (ps.getD i []).length ≤ 1000000) :
    Calls Try.prog 20 #[u] w fun e w' => ∃ r, e = .returned (.bool r) ∧ Says r (IsGrp ps) ∧ Below w.heap.size w w' := by
  have HH := Lib.hid h
  have HX := Lib.hid hx
  obtain ⟨a', cap, rfl, _⟩ := h
  clear hx
  go_enter Try.func20, Try.ntmps20
  go_wp2_with fail
  refine (closedOf_any _ ps _ HH.out HX.out).mono ?_
  rintro e w1 ⟨hb, ⟨hn, rfl⟩ | ⟨hg, c, m, vg, vl, G, L, rfl, _, _⟩⟩
  · have HB := Lib.hid hb
    have HN := Lib.hid hn
    clear hb hn
    go_wp2_with fail
    go_ret
    exact ⟨false, rfl, Says.no HN.out, HB.out⟩
  · have HB := Lib.hid hb
    have HG := Lib.hid hg
    clear hb hg
    go_wp2_with fail
    go_ret
    exact ⟨true, rfl, Says.yes HG.out, HB.out⟩
end
end Go.Proofs.Ytdcilefiacohnaa
