/- field.generates, generator, commonDivisor and leastRoot by their meaning. -/
import Derived.Test.YtmenkahkdcjkiaaDoorProg
import Derived.Test.YtmenkahkdcjkiaaDoorBase
import Derived.Test.YtmenkahkdcjkiaaDoorFops
import Derived.Test.YtmenkahkdcjkiaaDoorDivs
import Derived.Test.YtmenkahkdcjkiaaDoorLst
import Derived.Deep.QuietTactic
import Derived.BigQuiet
namespace Go.Proofs.YtmenkahkdcjkiaaDoor
open Go.RowKit

/-- a makes all, as far as the quotients tell -/
def GenB (p m a n : Nat) (L : List Nat) : Prop := ∀ e, e ∈ L → pw (fmul p m) a (n / e) ≠ 1
theorem quo_get (n : Nat) (L : List Nat) (i : Nat) (h : i < L.length) : (quo n L).getD i 0 = ((n / L.getD i 0 : Nat) : Int) := by simp [quo, h]
theorem Ow.formq {B : Nat} {w : World} {v : Value} {T : List Int} (h : Ow B w v T) : ∃ a c, v = .slice a T.length c ∧ ∀ i, i < T.length → ∃ b o, a = some ⟨b, o, none⟩ ∧ w.cell? ⟨b, o + i, none⟩ = some (.int .i64 (T.getD i 0)) := by
  obtain ⟨a, c, rfl, hc⟩ := h.sl
  refine ⟨a, c, rfl, fun i hi => ?_⟩
  rcases hc with hc | ⟨b, o, rfl, hc⟩
  · rw [hc] at hi; simp at hi
  · exact ⟨b, o, rfl, hc i hi⟩

set_option maxHeartbeats 1000000 in
theorem gens_yes (p m a n B : Nat) (v : Value) (L : List Nat) (w : World) (hw : Tab w) (h : Vf p m) (ha : a < fQ p m) (hn : n ≤ 65536) (hv : Ow B w v (quo n L)) (hL : L.length ≤ 65536) (hg : GenB p m a n L) : Calls Tryd.prog 48 #[.iface (aTy m) (.int .i64 (aDat p m)), .int .i64 a, v] w fun e w' => e = .returned (.bool true) ∧ w = w' := by
  obtain ⟨ad, c, rfl, hc⟩ := hv.formq
  have H := Lib.hid h
  have HA := Lib.hid ha
  have HW := Lib.hid hw
  have HG := Lib.hid hg
  have HC := Lib.hid hc
  have hlen : (quo n L).length = L.length := by simp [quo]
  rw [hlen] at HC ⊢
  clear h ha hw hg hc hlen hv
  go_enter Tryd.func48, Tryd.ntmps48
  go_wp2_with fail
  go_loop [8, 11] (fun _ iv => ∃ i : Nat, iv = .int .i64 i ∧ i ≤ L.length) (fun _ iv => L.length - (intOf iv).toNat)
  case atStart => exact ⟨0, rfl, Nat.zero_le _⟩
  case round =>
    obtain ⟨i, rfl, hi⟩ := hrel
    by_cases hlt : i < L.length
    · obtain ⟨b, o, rfl, g⟩ := HC.out i (by simpa using hlt)
      rw [quo_get n L i hlt] at g
      have hle : n / L.getD i 0 ≤ n := Nat.div_le_self _ _
      have HN := Lib.hid (HG.out (L.getD i 0) (by rw [List.getD_eq_getElem?_getD, List.getElem?_eq_getElem hlt]; exact List.getElem_mem hlt))
      obtain ⟨E, hE⟩ : ∃ E, E = n / L.getD i 0 := ⟨_, rfl⟩
      rw [← hE] at g hle HN
      clear hE
      go_wp2_with fail
      refine (power_any p m a E _ HW.out H.out HA.out (by omega)).mono ?_
      rintro e w' ⟨rfl, rfl⟩
      have D : (((pw (fmul p m) a E : Nat) : Int) == 1) = false := by
        have := HN.out
        simp; omega
      go_wp2_with fail
      go_round
      case rel => exact ⟨i + 1, by go_num, by omega⟩
      case measure => simp [intOf]; omega
    · go_wp2_with fail
      go_ret
      exact ⟨rfl, rfl⟩
/-- the first k tell nothing against a -/
def GenTo (p m a n : Nat) (L : List Nat) (k : Nat) : Prop := ∀ j, j < k → pw (fmul p m) a (n / L.getD j 0) ≠ 1
set_option maxHeartbeats 1000000 in
theorem gens_no (p m a n B : Nat) (v : Value) (L : List Nat) (w : World) (hw : Tab w) (h : Vf p m) (ha : a < fQ p m) (hn : n ≤ 65536) (hv : Ow B w v (quo n L)) (hL : L.length ≤ 65536) (hg : ¬ GenB p m a n L) : Calls Tryd.prog 48 #[.iface (aTy m) (.int .i64 (aDat p m)), .int .i64 a, v] w fun e w' => e = .returned (.bool false) ∧ w = w' := by
  obtain ⟨ad, c, rfl, hc⟩ := hv.formq
  have H := Lib.hid h
  have HA := Lib.hid ha
  have HW := Lib.hid hw
  have HG := Lib.hid hg
  have HC := Lib.hid hc
  have hlen : (quo n L).length = L.length := by simp [quo]
  rw [hlen] at HC ⊢
  clear h ha hw hg hc hlen hv
  go_enter Tryd.func48, Tryd.ntmps48
  go_wp2_with fail
  go_loop [8, 11] (fun _ iv => ∃ i : Nat, iv = .int .i64 i ∧ i ≤ L.length ∧ Hid (GenTo p m a n L i)) (fun _ iv => L.length - (intOf iv).toNat)
  case atStart => exact ⟨0, rfl, Nat.zero_le _, Lib.hid fun j hj => absurd hj (Nat.not_lt_zero j)⟩
  case round =>
    obtain ⟨i, rfl, hi, hto⟩ := hrel
    by_cases hlt : i < L.length
    · obtain ⟨b, o, rfl, g⟩ := HC.out i (by simpa using hlt)
      rw [quo_get n L i hlt] at g
      have hle : n / L.getD i 0 ≤ n := Nat.div_le_self _ _
      have HN := Lib.hid (fun (hh : pw (fmul p m) a (n / L.getD i 0) ≠ 1) j (hj : j < i + 1) => if e : j = i then e ▸ hh else hto.out j (by omega))
      obtain ⟨E, hE⟩ : ∃ E, E = n / L.getD i 0 := ⟨_, rfl⟩
      have HE := Lib.hid hE
      rw [← hE] at g hle HN
      clear hE
      go_wp2_with fail
      refine (power_any p m a E _ HW.out H.out HA.out (by omega)).mono ?_
      rintro e w' ⟨rfl, rfl⟩
      by_cases h1 : pw (fmul p m) a E = 1
      · have D : (((pw (fmul p m) a E : Nat) : Int) == 1) = true := by simp; omega
        clear h1
        go_wp2_with fail
        go_ret
        exact ⟨rfl, rfl⟩
      · have D : (((pw (fmul p m) a E : Nat) : Int) == 1) = false := by simp; omega
        have HT := Lib.hid (HN.out h1)
        clear h1
        go_wp2_with fail
        go_round
        case rel => exact ⟨i + 1, by go_num, by omega, HT⟩
        case measure => simp [intOf]; omega
    · exfalso
      apply HG.out
      intro e he
      obtain ⟨j, hj, rfl⟩ := List.getElem_of_mem he
      have := hto.out j (by omega)
      simpa [hj] using this

set_option maxHeartbeats 1000000 in
theorem generator_any (p m : Nat) (w : World) (hw : Tab w) (h : Vf p m) : Calls Tryd.prog 45 #[.iface (aTy m) (.int .i64 (aDat p m))] w fun e w' => ∃ g : Nat, e = .returned (.int .i64 g) ∧ g < fQ p m ∧ Ord (fmul p m) g (fQ p m - 1) ∧ Below w.heap.size w w' := by
  have hq := h.q
  have F := h.fld
  obtain ⟨g0, hg0, hg0n, hgo⟩ := F.exists_ord (fQ p m - 1) (by omega) (Nat.dvd_refl _)
  have H := Lib.hid h
  have HW := Lib.hid hw
  have HO0 := Lib.hid hgo
  have m1 := meth_order
  have m2 := call_order
  obtain ⟨q, hq0⟩ : ∃ q, q = fQ p m := ⟨_, rfl⟩
  have HQ := Lib.hid hq0
  rw [← hq0] at hq hg0
  clear h hw hgo F
  go_enter Tryd.func45, Tryd.ntmps45
  go_wp2_with fail
  refine (aorder_any p m _ H.out).mono ?_
  rintro e w' ⟨rfl, rfl⟩
  rw [← hq0]
  clear hq0
  obtain ⟨n, hn⟩ : ∃ n, n = q - 1 := ⟨_, rfl⟩
  have hn1 : 1 ≤ n := by omega
  have en : (q : Int) - 1 = (n : Int) := by omega
  have HN := Lib.hid hn
  clear hn
  go_wp2_with fail
  refine (divs_any n _ hn1 (by have := HN.out; omega)).mono ?_
  rintro e w1 ⟨v, L, rfl, hO, hP, hL, hb⟩
  have HO := Lib.hid hO
  have HP := Lib.hid hP
  have HB := Lib.hid hb
  have HW1 := Lib.hid (HW.out.below hb)
  have hgen0 : GenB p m g0 n L := fun e he e1 => by
    obtain ⟨hp, ⟨c, hc⟩⟩ := HP.out.1 e he
    have he0 : 0 < e := by have := hp.1; omega
    have e2 := (HO0.out _).1 e1
    rw [← HQ.out, ← HN.out, hc, Nat.mul_div_cancel_left c he0] at e2
    have hc0 : 0 < c := by
      rcases Nat.eq_zero_or_pos c with h0 | h0
      · subst h0; rw [Nat.mul_zero] at hc; omega
      · exact h0
    have := Nat.le_of_dvd hc0 e2
    have := Nat.mul_le_mul_right c hp.1
    omega
  have HG0 := Lib.hid hgen0
  clear hO hP hb hgen0 en m1 m2
  go_wp2_with fail
  go_loop [4] (fun av => ∃ a : Nat, av = .int .i64 a ∧ 1 ≤ a ∧ a ≤ g0) (fun av => q - (intOf av).toNat)
  case atStart => exact ⟨1, rfl, Nat.le_refl _, by omega⟩
  case round =>
    obtain ⟨a, rfl, ha1, hag⟩ := hrel
    have haq : a < fQ p m := by rw [← HQ.out]; omega
    have HAQ := Lib.hid haq
    have hn65 : n ≤ 65536 := by have := HN.out; omega
    by_cases hg : GenB p m a n L
    · have HG := Lib.hid hg
      clear hg haq
      go_wp2_with fail
      refine (gens_yes p m a n _ v L _ HW1.out H.out HAQ.out hn65 HO.out hL HG.out).mono ?_
      rintro e w' ⟨rfl, rfl⟩
      go_wp2_with fail
      go_ret
      refine ⟨a, rfl, HAQ.out, ?_, HB.out⟩
      refine H.out.fld.ord_of_max HAQ.out (by omega) fun p' hp hd => ?_
      have := HG.out p' (HP.out.2 p' hp (by rw [HN.out, HQ.out]; exact hd))
      rw [HN.out, HQ.out] at this
      exact this
    · have HG := Lib.hid hg
      have hne : a ≠ g0 := fun e => hg (e ▸ HG0.out)
      have hlt : a < g0 := by omega
      clear hg haq hne
      go_wp2_with fail
      refine (gens_no p m a n _ v L _ HW1.out H.out HAQ.out hn65 HO.out hL HG.out).mono ?_
      rintro e w' ⟨rfl, rfl⟩
      go_wp2_with fail
      go_round
      case rel => exact ⟨a + 1, by go_num, by omega, by omega⟩
      case measure => simp [intOf]; omega
end Go.Proofs.YtmenkahkdcjkiaaDoor
