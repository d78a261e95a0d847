/- perm.parseCycle, by its meaning. -/
import Derived.Test.YtcnkegcogepimaaDoorProg
import Derived.Test.YtcnkegcogepimaaDoorBase
import Derived.Test.YtcnkegcogepimaaDoorEnter
import Derived.WalkSpells
namespace Go.Proofs.YtcnkegcogepimaaDoor
open Go.RowKit

/-- a string's length, for a measure -/
def strLen : Value → Nat | .string b => b.size | _ => 0
/-- what parseCycle hands back -/
def pcOut (P : List Int) (g bm : Nat) (w' : World) (e : Ending) : Option (List UInt8 × List Int × List Int) → Prop
  | none => e = .returned (.tuple #[.string (strB []), .bool false])
  | some (r, c, m) => e = .returned (.tuple #[.string (strB r), .bool true]) ∧ Blk w' g 3 (ints (ent P c)) ∧ Blk w' bm 60 (mk m) ∧ (∀ x, x ∈ c → 0 ≤ x ∧ x < (P.length : Int)) ∧ c.length ≤ 1000000
theorem Turns.grow {priv : Nat → Prop} {A B C : World} {row : Option Nat} (h : Turns priv A B) (hg : B.grownBy C row) (hr : ∀ b, row = some b → A.heap.size ≤ b) : Turns priv A C :=
  ⟨hg.os.trans h.os, hg.tape.trans h.tape, hg.output.trans h.output, Nat.le_trans h.size hg.size, fun k hk hn => (hg.block k (Nat.lt_of_lt_of_le hk h.size) (fun e => by have := hr k e.symm; omega)).trans (h.block k hk hn)⟩
theorem ext3 (b0 b1 b2 : UInt8) (r : List UInt8) : (strB (b0 :: b1 :: b2 :: r)).extract 3 (r.length + 3) = strB r := by
  apply ByteArray.ext
  simp [strB]
theorem ext2 (b0 b1 b2 : UInt8) (r : List UInt8) : (strB (b0 :: b1 :: b2 :: r)).extract 2 (r.length + 3) = strB (b2 :: r) := by
  apply ByteArray.ext
  simp [strB]
theorem w64_in (n : Int) (h : -9223372036854775808 ≤ n ∧ n ≤ 9223372036854775807) : wrap64 n = n := by unfold wrap64; omega
theorem infoInt2 : (Tryd.prog.info? 3).map (fun i => (i.zero, i.size, i.bytes)) = some (some (.int .i64 0), 1, 8) := by kernel_rfl

set_option maxRecDepth 100000 in
set_option maxHeartbeats 4000000 in
theorem pcycle_any (s : List UInt8) (g bm : Nat) (P met : List Int) (w : World) (hB : Blk w g 3 (ints P)) (hP : P.length ≤ 7) (hM : Blk w bm 60 (mk met)) (hs : s.length ≤ 2000) :
    Calls Tryd.prog 30 #[.string (strB s), .slice (some ⟨g, 0, none⟩) P.length P.length, .pointer (some ⟨bm, 0, none⟩)] w fun e w' => pcOut P g bm w' e (pcGo P.length s 40 [] met) ∧ Turns (fun b => b = g ∨ b = bm) w w' := by
  have hgl : g < w.heap.size := hB.lt
  have hml : bm < w.heap.size := hM.lt
  have hgm : g ≠ bm := fun e => by
    subst e
    have h := hB.symm.trans hM
    simp only [Option.some.injEq, Obj.cells.injEq] at h
    exact absurd h.2.1 (by decide)
  have HGM := Lib.hid hgm
  have HB := Lib.hid hB
  have HM := Lib.hid hM
  obtain ⟨i0, hi, hz0, hz1, hz2⟩ := info_parts infoInt2
  obtain ⟨n, hn⟩ : ∃ n, n = P.length := ⟨_, rfl⟩
  have HN := Lib.hid hn
  rw [← hn] at hP ⊢
  clear hB hM hn hgm
  go_enter Tryd.func30, Tryd.ntmps30
  go_wp2
  go_loopw [0, 8, 9] (fun sv cv bv wr => ∃ (s1 : List UInt8) (acc m1 : List Int) (bf : UInt8), sv = .string (strB s1) ∧ bv = .int .u8 bf.toNat ∧ Hid (pcGo n s1 bf acc m1 = pcGo n s 40 [] met) ∧ Hid (Ow w.heap.size wr cv acc) ∧ Hid (Blk wr bm 60 (mk m1)) ∧ Hid (Turns (fun b => b = bm) w wr) ∧ acc.length + s1.length ≤ s.length ∧ Hid (∀ x, x ∈ acc → 0 ≤ x ∧ x < (n : Int))) (fun sv _ _ _ => strLen sv)
  case atStart => exact ⟨s, [], met, 40, rfl, rfl, Lib.hid rfl, Lib.hid (Ow.nil _ _), HM, Lib.hid (Turns.refl _ _), by simp, Lib.hid (fun x hx => by simp at hx)⟩
  case round =>
    clear HM
    obtain ⟨s1, acc, m1, bf, rfl, rfl, hpc, hO, hM, ht, hl, hr⟩ := hrel
    have HO := Lib.hid hO.out
    match s1, hpc, hl with
    | [], hpc, hl =>
      have hsz : (strB []).size = 0 := rfl
      go_wp2
      go_ret2
      exact ⟨by rw [← hpc.out]; rfl, ht.out.mono (fun b h => .inr h)⟩
    | [b0], hpc, hl =>
      have hsz : (strB [b0]).size = 1 := rfl
      go_wp2
      go_ret2
      exact ⟨by rw [← hpc.out]; rfl, ht.out.mono (fun b h => .inr h)⟩
    | [b0, b1], hpc, hl =>
      have hsz : (strB [b0, b1]).size = 2 := rfl
      go_wp2
      go_ret2
      exact ⟨by rw [← hpc.out]; rfl, ht.out.mono (fun b h => .inr h)⟩
    | b0 :: b1 :: b2 :: r, hpc, hl =>
      have hsz : (strB (b0 :: b1 :: b2 :: r)).size = r.length + 3 := rfl
      have e0 : (strB (b0 :: b1 :: b2 :: r))[0]'(by rw [hsz]; omega) = b0 := rfl
      have e2 : (strB (b0 :: b1 :: b2 :: r))[2]'(by rw [hsz]; omega) = b2 := rfl
      have x3 := ext3 b0 b1 b2 r
      have x2 := ext2 b0 b1 b2 r
      have hlr : acc.length + (r.length + 3) ≤ s.length := by simpa using hl
      by_cases hb : b0 = bf
      · subst hb
        have hbb : ((b0.toNat : Int) == (b0.toNat : Int)) = true := by simp
        have hpc2 := hpc.out
        rw [pcGo, if_pos rfl] at hpc2
        obtain ⟨N, hN⟩ : ∃ N : Nat, b1.toNat = N := ⟨_, rfl⟩
        have h255 : N < 256 := by rw [← hN]; exact b1.toNat_lt
        rw [hN] at hpc2
        have e1 : ((strB (b0 :: b1 :: b2 :: r))[1]'(by rw [hsz]; omega)).toNat = N := hN
        clear hpc hl hO hN
        by_cases hneg : N < 48
        · have HP2 := Lib.hid (show pcGo n s 40 [] met = none by rw [← hpc2, if_pos (.inl (by omega))])
          have hneg2 : (N : Int) - 48 < 0 := by omega
          clear hpc2
          go_wp2
          go_ret2
          exact ⟨by rw [HP2.out]; rfl, ht.out.mono (fun b h => .inr h)⟩
        obtain ⟨k, rfl⟩ : ∃ k, N = 48 + k := ⟨N - 48, by omega⟩
        have hx : ((48 + k : Nat) : Int) - 48 = (k : Int) := by omega
        rw [hx] at hpc2
        have hx48 : (48 : Int) + (k : Int) - 48 = (k : Int) := by omega
        have HPC := Lib.hid hpc2
        clear hpc2 hneg
        by_cases hbig : n ≤ k
        · have HP2 := Lib.hid (show pcGo n s 40 [] met = none by rw [← HPC.out, if_pos (.inr (.inl (by omega)))])
          go_wp2
          go_ret2
          exact ⟨by rw [HP2.out]; rfl, ht.out.mono (fun b h => .inr h)⟩
        have hk7 : k < 7 := by omega
        have hkn : k < n := by omega
        have hcm := hM.out.cell k
        rw [mk_get _ _ hk7] at hcm
        have hfm := hM.out.free k
        by_cases hin : (k : Int) ∈ m1
        · have HP2 := Lib.hid (show pcGo n s 40 [] met = none by rw [← HPC.out, if_pos (.inr (.inr hin))])
          rw [decide_eq_true hin] at hcm
          clear hin
          go_wp2
          go_ret2
          exact ⟨by rw [HP2.out]; rfl, ht.out.mono (fun b h => .inr h)⟩
        have hno := HPC.out
        rw [if_neg (by intro h; rcases h with h | h | h; omega; omega; exact hin h)] at hno
        rw [decide_eq_false hin] at hcm
        have HNo := Lib.hid hno
        have hM2 : Blk (wr.setCell ⟨bm, k, none⟩ (.bool true)) bm 60 (mk ((k : Int) :: m1)) := by
          have := hM.out.set k (.bool true)
          rwa [mk_set] at this
        have ht2 : Turns (fun b => b = bm) w (wr.setCell ⟨bm, k, none⟩ (.bool true)) := ht.out.setCell _ _ _ rfl
        have hO2 : Ow w.heap.size (wr.setCell ⟨bm, k, none⟩ (.bool true)) u8 acc := HO.out.turns (priv := fun b => b = bm) ((Turns.refl _ wr).setCell _ _ _ rfl) (fun b hb2 h => by have := (HO.out.lt b hb2).1; omega)
        have hwr : w.heap.size ≤ wr.heap.size := ht.out.size
        have hO2' : ((wr.setCell ⟨bm, k, none⟩ (.bool true)).alloc (.cells #[.int .i64 k] 3)).ownsRow w.heap.size 3 1 u8 acc.length (acc.map (Value.int .i64)) := by
          have := hO2.below ((Below.refl _ (wr.setCell ⟨bm, k, none⟩ (.bool true))).alloc (Nat.le_refl _) (.cells #[.int .i64 (k : Int)] 3))
          exact this
        have HO3 := Lib.hid hO2'
        have HM2 := Lib.hid hM2
        have HT2 := Lib.hid ht2
        have hrow : ∀ b, u8.ownBlock = some b → w.heap.size ≤ b := fun b h => (hO2.lt b h).1
        have HRow := Lib.hid hrow
        have hszw : (wr.setCell ⟨bm, k, none⟩ (.bool true)).heap.size = wr.heap.size := by simp
        have hus : ∃ ua uc, u8 = .slice ua acc.length uc := by
          obtain ⟨ua, uc, e, _⟩ := hO2.sl
          exact ⟨ua, uc, e⟩
        obtain ⟨ua, uc, rfl⟩ := hus
        clear hno hin hM2 ht2 hO2 hO2' hrow hM ht HPC
        have hfree : (wr.setCell ⟨bm, k, none⟩ (.bool true)).heap.size = wr.heap.size := by simp
        by_cases h41 : b2 = 41
        · have hyes := HNo.out
          rw [if_pos h41] at hyes
          have HYes := Lib.hid hyes
          clear hyes
          subst h41
          have hb41 : (((41 : UInt8).toNat : Int) == 41) = true := by decide
          go_wp2_with (first | (at_builtin; refine wpList_append_own _ rfl _ _ 22 rfl w.heap.size 3 i0 (.int .i64 0) 1 8 Tryd.underlying22 hi hz0 hz1 hz2 rfl (by decide) _ _ _ rfl HO3.out ⟨wr.heap.size, 0, none⟩ 1 1 [.int .i64 (k : Int)] rfl rfl (by have := cell_one_new (wr.setCell ⟨bm, k, none⟩ (.bool true)) (.int .i64 (k : Int)) 3; rw [hszw] at this; exact this) (by simp [Value.oneCell']) (by unfold maxLen; omega) (by omega) (by simp; omega) ?_; intro v' w2 hown' hgrow _; obtain ⟨g', cap', rfl⟩ := ownsRow_succ hown'))
          have T2 : Turns (fun b => b = bm) w w2 := (HT2.out.trans (Turns.alloc _ _)).grow hgrow HRow.out
          have M2 : Blk w2 bm 60 (mk ((k : Int) :: m1)) := (hgrow.block bm (by simp; omega) (fun e => by have := HRow.out bm e.symm; omega)).trans (HM2.out.alloc _)
          have B2 : Blk w2 g 3 (ints P) := HB.out.turns T2 HGM.out
          have Ov := Ow.push hown'
          have hr2 : ∀ x, x ∈ acc ++ [(k : Int)] → 0 ≤ x ∧ x < (n : Int) := fun x hx => by
            rcases List.mem_append.1 hx with h | h
            · exact hr.out x h
            · simp at h; omega
          have HT := Lib.hid T2
          have HM3 := Lib.hid M2
          have HOv := Lib.hid Ov
          have HR2 := Lib.hid hr2
          clear hfree hszw HM2 HT2 HRow HO3 T2 M2 Ov hr2 hown' hgrow
          have hent := enter_any g P (acc ++ [(k : Int)]) _ w2 B2 (HOv.out.mono (by omega)) (fun x hx => by have := HR2.out x hx; rw [← HN.out]; exact this) (by simp; omega)
          rw [← HN.out] at hent
          have HEnt := Lib.hid hent
          clear hent B2
          refine HEnt.out.mono ?_
          rintro e w3 ⟨rfl, hB3, hT3⟩
          have HB3 := Lib.hid hB3
          have HT3 := Lib.hid hT3
          clear hB3 hT3
          go_wp2
          go_ret2
          refine ⟨?_, (HT.out.mono (fun b h => .inr h)).trans (HT3.out.mono (fun b h => .inl h))⟩
          rw [← HYes.out]
          refine ⟨rfl, HB3.out, HM3.out.turns HT3.out (fun h => HGM.out h.symm), fun x hx => by have := HR2.out x hx; rw [← HN.out]; exact this, by simp; omega⟩
        · have hb41 : ((b2.toNat : Int) == 41) = false := by
            rw [beq_eq_false_iff_ne]
            intro h
            exact h41 (UInt8.toNat_inj.1 (by show b2.toNat = 41; omega))
          have hno2 := HNo.out
          rw [if_neg h41] at hno2
          have HNo2 := Lib.hid hno2
          clear hno2 h41
          go_wp2_with (first | (at_builtin; refine wpList_append_own _ rfl _ _ 22 rfl w.heap.size 3 i0 (.int .i64 0) 1 8 Tryd.underlying22 hi hz0 hz1 hz2 rfl (by decide) _ _ _ rfl HO3.out ⟨wr.heap.size, 0, none⟩ 1 1 [.int .i64 (k : Int)] rfl rfl (by have := cell_one_new (wr.setCell ⟨bm, k, none⟩ (.bool true)) (.int .i64 (k : Int)) 3; rw [hszw] at this; exact this) (by simp [Value.oneCell']) (by unfold maxLen; omega) (by omega) (by simp; omega) ?_; intro v' w2 hown' hgrow _; obtain ⟨g', cap', rfl⟩ := ownsRow_succ hown'))
          have T2 : Turns (fun b => b = bm) w w2 := (HT2.out.trans (Turns.alloc _ _)).grow hgrow HRow.out
          have M2 : Blk w2 bm 60 (mk ((k : Int) :: m1)) := (hgrow.block bm (by simp; omega) (fun e => by have := HRow.out bm e.symm; omega)).trans (HM2.out.alloc _)
          have B2 : Blk w2 g 3 (ints P) := HB.out.turns T2 HGM.out
          have Ov := Ow.push hown'
          have hr2 : ∀ x, x ∈ acc ++ [(k : Int)] → 0 ≤ x ∧ x < (n : Int) := fun x hx => by
            rcases List.mem_append.1 hx with h | h
            · exact hr.out x h
            · simp at h; omega
          have HT := Lib.hid T2
          have HM3 := Lib.hid M2
          have HOv := Lib.hid Ov
          have HR2 := Lib.hid hr2
          clear hfree hszw HM2 HT2 HRow HO3 T2 M2 B2 Ov hr2 hown' hgrow
          go_roundw
          case rel => exact ⟨b2 :: r, acc ++ [(k : Int)], (k : Int) :: m1, 32, rfl, rfl, HNo2, HOv, HM3, HT, by simp; omega, HR2⟩
          case measure => simp [strLen, size_strB]
      · have hbb : ((b0.toNat : Int) == (bf.toNat : Int)) = false := by
          rw [beq_eq_false_iff_ne]
          intro h
          exact hb (UInt8.toNat_inj.1 (by omega))
        have HP2 := Lib.hid (show pcGo n s 40 [] met = none by rw [← hpc.out, pcGo, if_neg hb])
        clear hb hpc
        go_wp2
        go_ret2
        exact ⟨by rw [HP2.out]; rfl, ht.out.mono (fun b h => .inr h)⟩
end Go.Proofs.YtcnkegcogepimaaDoor
