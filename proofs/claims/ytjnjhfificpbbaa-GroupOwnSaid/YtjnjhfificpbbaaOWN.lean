/- Copies of lists of permutations, and lists that the statement overwrites. | What GroupOwn needs beside the contracts: results that are the same in each world; lists of lists that are overwritten. | Results that lie between two sizes of the heap, and the state of a round of GroupOwn. -/
import Derived.Test.YtjnjhfificpbbaaGlaw9
import Derived.Test.YtjnjhfificpbbaaSpoil
import Derived.Deep.AppendSrc
namespace Go.Proofs.Ytjnjhfificpbbaa
open Go Go.RowKit

/-- append(api.Perm{}, x...) : a copy of the call's own -/
theorem wpList_append_copy {ops : Array Oper} {rest : List Oper} {o : Oper} {a : Act} {w : World} {Q : Exit → Act → World → Prop} (hgd : o.guard = none) (s x : Operand)
    (hop : o.op = Op.call { callee := Callee.builtin Builtin.append, args := #[s, x], argTypes := #[32, 32] })
    (g : Nat) (hs : a.eval s = .slice (some ⟨g, 0, none⟩) 0 0) (hg : Blk w g 3 #[]) (xv : Value) (M : List Int) (hx : a.eval x = xv) (hS : Sl w xv M) (hM : M.length ≤ 1000000)
    (hK : ∀ v' w', Ow g w' v' M → w.grownBy w' (some g) → wpList Try.prog ops Q rest (a.put o.dst v') w') :
    wpList Try.prog ops Q (o :: rest) a w := by
  obtain ⟨i0, hi, hz0, hz1, hz2⟩ := info_parts infoInt
  have hlt := hg.lt
  have hown : w.ownsRow g 3 1 (.slice (some ⟨g, 0, none⟩) 0 0) 0 [] := ⟨rfl, .inr ⟨g, 0, #[], rfl, Nat.le_refl _, hg, Nat.le_refl _, Nat.zero_le _, rfl, rfl⟩⟩
  refine wpList_plain hgd fun K hKK => ?_
  have key : ∃ v' w', (Builtin.append_ #[32, 32] o.type #[.slice (some ⟨g, 0, none⟩) 0 0, xv]).run Try.prog w = .ok v' w' ∧ Ow g w' v' M ∧ w.grownBy w' (some g) := by
    obtain ⟨ax, cx, rfl, hS⟩ := hS
    rcases ax with _ | ad
    · have hM0 : M = [] := by
        rcases hS with h | ⟨b, off, h, _⟩
        · exact h
        · cases h
      subst hM0
      have hr := run_append_room_src (P := Try.prog) w 32 32 o.type 3 i0 Try.underlying32 hi g 0 0 0 (.slice none 0 cx) 0 [] (Src.ofNil w Try.underlying32 cx) (by omega) (fun j hj => by simp at hj) (fun j hj => by simp at hj)
      exact ⟨_, _, hr, hown, ⟨rfl, rfl, rfl, Nat.le_refl _, fun _ _ _ => rfl⟩⟩
    · obtain ⟨v', w', hr, h1, h2, _⟩ := run_append_own (P := Try.prog) w g 32 o.type 3 i0 (.int .i64 0) 1 8 Try.underlying32 hi hz0 hz1 hz2 rfl (by decide) (.slice (some ⟨g, 0, none⟩) 0 0) 0 [] hown ad M.length cx (M.map (Value.int .i64)) (by simp)
        (fun j u hu => by
          rw [List.getElem?_map] at hu
          cases hj : M[j]? with
          | none => rw [hj] at hu; cases hu
          | some y =>
            rw [hj] at hu
            have hlt : j < M.length := (List.getElem?_eq_some_iff.1 hj).1
            rcases hS with h | ⟨b, off, h, hc⟩
            · rw [h] at hlt; simp at hlt
            · cases h
              have := hc j hlt
              rw [Addr.add_lit, this, ← hu]
              simp [hj])
        (fun u hu => by obtain ⟨y, _, rfl⟩ := List.mem_map.1 hu; rfl) (by unfold maxLen; omega) (by omega) (by omega)
      refine ⟨v', w', hr, ?_, h2⟩
      unfold Ow; simpa using h1
  obtain ⟨v', w', hrun, h1, h2⟩ := key
  unfold Oper.wp execOp
  simp only [hop, resolve, invoke, builtin, Sem.run_bind, Sem.run_pure, Result.andThen_ok, List.map_toArray, List.map_cons, List.map_nil, hs, hx, hrun]
  exact hKK _ _ (hK v' w' h1 h2)

theorem getD_form {B : Nat} {w : World} {v : Value} {zs : List Int} (h : Ow B w v zs) : ∃ a c, v = .slice a zs.length c := by
  obtain ⟨a, c, e, _⟩ := h.sl
  exact ⟨a, c, e⟩

set_option maxRecDepth 100000 in
set_option maxHeartbeats 4000000 in
theorem copy_any (v : Value) (ps : List (List Int)) (w : World) (h : Sps w v ps) (hl : ps.length ≤ 1000000) (hx : ∀ i, i < ps.length → (ps.getD i []).length ≤ 1000000) :
    Calls Try.prog 46 #[v] w fun e w' => ∃ x, e = .returned x ∧ Owp w.heap.size w' x ps ∧ Below w.heap.size w w' := by
  obtain ⟨i1, hq0, hq1, hq2, hq3⟩ := info_parts infoPerm3
  obtain ⟨a, cap, rfl, h⟩ := h
  obtain ⟨n, hn⟩ : ∃ n, n = ps.length := ⟨_, rfl⟩
  have HN := Lib.hid hn
  have HC := Lib.hid h
  have HX := Lib.hid hx
  rw [← hn] at hl ⊢
  have HB0 := Lib.hid (Below.refl w.heap.size w)
  have HO0 := Lib.hid (show Owp w.heap.size w (.slice none 0 0) (ps.take 0) from ⟨[], rfl, World.ownsRow_nil _ _ _ _, fun i hi => by cases hi⟩)
  clear hn h hx
  go_enter Try.func46, Try.ntmps46
  go_wp2_with fail
  go_loopw [3, 4] (fun ov iv wr => ∃ i : Nat, iv = .int .i64 i ∧ i ≤ n ∧ Hid (Owp w.heap.size wr ov (ps.take i)) ∧ Hid (Below w.heap.size w wr)) (fun _ iv _ => n - (intOf iv).toNat)
  case atStart => exact ⟨0, rfl, Nat.zero_le _, HO0, HB0⟩
  case round =>
    clear HO0 HB0
    obtain ⟨i, rfl, hi, HO, HB⟩ := hrel
    by_cases hli : i < n
    · rcases HC.out with hc | ⟨b, off, rfl, hc⟩
      · have := HN.out
        rw [hc] at this
        simp at this; omega
      obtain ⟨x, f1, f2⟩ := hc i (by rw [← HN.out]; exact hli)
      have hp6 := HX.out i (by rw [← HN.out]; exact hli)
      have htk : ps.take (i + 1) = ps.take i ++ [ps.getD i []] := by
        rw [List.take_succ_eq_append_getElem (by rw [← HN.out]; exact hli)]
        simp [show i < ps.length by rw [← HN.out]; exact hli]
      obtain ⟨p, hp⟩ : ∃ p, p = ps.getD i [] := ⟨_, rfl⟩
      rw [← hp] at f2 hp6 htk
      have f3 := (HB.out.cell (p := ⟨b, off + i, none⟩) (World.block_lt_of_cell? w _ f1)).trans f1
      have b1 := (Below.refl wr.heap.size wr).alloc (Nat.le_refl _) (.cells #[] 3)
      have HS := Lib.hid ((f2.below HB.out).below b1)
      have f4 := (b1.cell (p := ⟨b, off + i, none⟩) (World.block_lt_of_cell? wr _ f3)).trans f3
      obtain ⟨xa, xc, rfl, _⟩ := f2
      obtain ⟨pn, hpn⟩ : ∃ pn, pn = p.length := ⟨_, rfl⟩
      rw [← hpn] at f1 f3 f4 HS hp6
      obtain ⟨os, o1, o2, o3⟩ := HO.out
      have hql : (ps.take i).length = i := by rw [List.length_take]; have := HN.out; omega
      have HP6 := Lib.hid (show p.length ≤ 1000000 by rw [← hpn]; exact hp6)
      have HTk := Lib.hid htk
      have O1 := Lib.hid o1
      have O2 := Lib.hid (show wr.ownsRow w.heap.size 32 1 u3 i os by rw [← hql]; exact o2)
      have O3 := Lib.hid o3
      have HQl := Lib.hid hql
      have hbs := HB.out.size
      have HB1 := Lib.hid b1
      clear hc f1 htk hp hpn o1 o2 o3 hql b1 HO
      go_wp2_with (first | (at_builtin; refine wpList_append_copy rfl _ _ rfl wr.heap.size rfl (Blk.new wr 3 #[]) _ p rfl HS.out HP6.out ?_; intro v' wz hOv hgz; have HBz := Lib.hid (HB1.out.grown hgz (by simp) (fun k e => by cases e; exact Nat.le_refl _)); have HOV := Lib.hid hOv; obtain ⟨va', vc', rfl⟩ := getD_form hOv; have HOz := Lib.hid (row_below O2.out HBz.out); have hwz := HBz.out.size; clear hOv hgz) | (at_builtin; go_loud (refine wpList_append_own _ rfl _ _ 22 rfl w.heap.size 32 i1 (.slice none 0 0) 1 24 Try.underlying22 hq0 hq1 hq2 hq3 rfl (by decide) u3 i os rfl (HOz.out.alloc _) ⟨wz.heap.size, 0, none⟩ 1 1 [.slice va' p.length vc'] rfl rfl (cell_one_new _ _ _) (by simp [Value.oneCell']) (by unfold maxLen; omega) (by omega) (by simp; omega) ?_; intro v2 wy hown hgrow _)))
      have hpush := Owp.push (vs := os) O1.out (by rw [HQl.out]; exact HOz.out) (fun k hk => (O3.out k hk).below HBz.out) (HOV.out.mono hbs) (by rw [HQl.out]; exact hown) hgrow
      rw [← HTk.out] at hpush
      have HOn := Lib.hid hpush
      have hb2 := HB.out.trans (HBz.out.mono HB.out.size)
      have HBn := Lib.hid ((hb2.alloc hb2.size (.cells #[.slice va' p.length vc'] 32)).grown hgrow (by simp; omega) (fun r e => (World.ownsRow.lt HOz.out r e).1))
      clear hown hgrow hpush hb2
      go_wp2
      go_roundw
      case rel => exact ⟨i + 1, by go_num, by omega, HOn, HBn⟩
      case measure => simp [intOf]; omega
    · have hie : ps.take i = ps := by rw [show i = ps.length by rw [← HN.out]; omega, List.take_length]
      have HOf := Lib.hid (show Owp w.heap.size wr u3 ps by rw [← hie]; exact HO.out)
      clear hie HO
      go_wp2_with fail
      go_ret
      exact ⟨_, rfl, HOf.out, HB.out⟩

/-- rows of permutations keep their size, and each place keeps what it holds or holds nil -/
def PKeeps (w w' : World) : Prop := ∀ k cur, Blk w k 32 cur → ∃ cur', Blk w' k 32 cur' ∧ cur'.size = cur.size ∧ ∀ i, i < cur.size → cur'[i]? = cur[i]? ∨ cur'[i]? = some (.slice none 0 0)
/-- all blocks but rows of integers and of permutations stay -/
def OKeeps (w w' : World) : Prop := ∀ (k : Nat) (t : TypeId) (cs : Array Value), Blk w k t cs → t ≠ 3 → t ≠ 32 → Blk w' k t cs
/-- what overwriting of memory between the blocks B and T leaves -/
structure SpK (B T : Nat) (w w' : World) : Prop where
  ks : Keeps w w'
  ps : PKeeps w w'
  os : OKeeps w w'
  ts : Turns (fun b => B ≤ b ∧ b < T) w w'
theorem SpK.refl (B T : Nat) (w : World) : SpK B T w w := ⟨Keeps.refl w, fun _ cur h => ⟨cur, h, rfl, fun _ _ => .inl rfl⟩, fun _ _ _ h _ _ => h, Turns.refl _ _⟩
theorem SpK.trans {B T : Nat} {a b c : World} (h : SpK B T a b) (k : SpK B T b c) : SpK B T a c :=
  ⟨h.ks.trans k.ks, fun i cur hi => by
    obtain ⟨c1, h1, e1, f1⟩ := h.ps i cur hi
    obtain ⟨c2, h2, e2, f2⟩ := k.ps i c1 h1
    refine ⟨c2, h2, e2.trans e1, fun j hj => ?_⟩
    rcases f2 j (by omega) with q | q
    · rcases f1 j hj with r | r
      · exact .inl (q.trans r)
      · exact .inr (q.trans r)
    · exact .inr q, fun i t cs hi h1 h2 => k.os i t cs (h.os i t cs hi h1 h2) h1 h2, h.ts.trans k.ts⟩
theorem SpK.mono {B T B' T' : Nat} {w w' : World} (h : SpK B T w w') (hB : B' ≤ B) (hT : T ≤ T') : SpK B' T' w w' := ⟨h.ks, h.ps, h.os, h.ts.mono fun _ hb => ⟨Nat.le_trans hB hb.1, Nat.lt_of_lt_of_le hb.2 hT⟩⟩
theorem SpK.row {B T m : Nat} {w w' : World} {x : Value} (hr : Rw B T w x m) (k2 : Keeps w w') (t2 : Turns (fun b => x.ownBlock = some b) w w') : SpK B T w w' := by
  have hb : ∀ b, x.ownBlock = some b → (B ≤ b ∧ b < T) ∧ ∃ cur, Blk w b 3 cur := fun b hbx => by
    rcases hr with ⟨rfl, _⟩ | ⟨g', cap', cur', rfl, r2, r3, _⟩
    · cases hbx
    · cases hbx
      exact ⟨r2, _, r3⟩
  refine ⟨k2, fun k cur hk => ⟨cur, hk.turns t2 (fun h => ?_), rfl, fun i _ => .inl rfl⟩, fun k t cs hk h1 _ => hk.turns t2 (fun h => ?_), t2.mono fun b h => (hb b h).1⟩
  · obtain ⟨c, hc⟩ := (hb k h).2
    exact hc.ne hk (by decide) rfl
  · obtain ⟨c, hc⟩ := (hb k h).2
    exact hc.ne hk (fun e => h1 e.symm) rfl
theorem SpK.nil {B T g i : Nat} {w : World} {cur : Array Value} (hb : Blk w g 32 cur) (hg : B ≤ g ∧ g < T) : SpK B T w (w.setCell ⟨g, i, none⟩ (.slice none 0 0)) := by
  refine ⟨Keeps.set _ _ _ _, fun k c hk => ?_, fun k t cs hk _ h2 => hk.other g i _ (hk.ne hb h2), (Turns.refl _ _).setCell _ _ _ hg⟩
  by_cases e : k = g
  · subst e
    refine ⟨_, hk.set i _, by simp, fun j hj => ?_⟩
    rw [Array.getElem?_setIfInBounds]
    by_cases q : i = j
    · rw [if_pos q]
      subst q
      rw [if_pos hj]
      exact .inr rfl
    · rw [if_neg q]; exact .inl rfl
  · exact ⟨c, hk.other g i _ e, rfl, fun _ _ => .inl rfl⟩
/-- v is a row of permutations of the program's own between the blocks B and T, and so is each of them, whatever they hold -/
def Pw (B T : Nat) (w : World) (v : Value) (n : Nat) : Prop :=
  (v = .slice none 0 0 ∧ n = 0) ∨ ∃ g cap cur, v = .slice (some ⟨g, 0, none⟩) n cap ∧ (B ≤ g ∧ g < T) ∧ Blk w g 32 cur ∧ (n ≤ cur.size ∧ n ≤ maxLen) ∧ ∀ i, i < n → ∃ x m, cur[i]? = some x ∧ m ≤ 1000000 ∧ Rw B T w x m
theorem Pw.keeps {B T B' T' : Nat} {w w' : World} {v : Value} {n : Nat} (h : Pw B T w v n) (k : SpK B' T' w w') : Pw B T w' v n := by
  rcases h with h | ⟨g, cap, cur, h1, h2, h3, h4, h5⟩
  · exact .inl h
  · obtain ⟨c2, b2, s2, f2⟩ := k.ps g cur h3
    refine .inr ⟨g, cap, c2, h1, h2, b2, ⟨by omega, h4.2⟩, fun i hi => ?_⟩
    obtain ⟨x, m, k1, k2, k3⟩ := h5 i hi
    rcases f2 i (by omega) with q | q
    · exact ⟨x, m, q.trans k1, k2, k3.keeps k.ks⟩
    · exact ⟨_, 0, q, Nat.zero_le _, .inl ⟨rfl, rfl⟩⟩
theorem Pw.turns {priv : Nat → Prop} {B T : Nat} {w w' : World} {v : Value} {n : Nat} (h : Pw B T w v n) (ht : Turns priv w w') (hp : ∀ b, priv b → ¬ (B ≤ b ∧ b < T)) : Pw B T w' v n := by
  rcases h with h | ⟨g, cap, cur, h1, h2, h3, h4, h5⟩
  · exact .inl h
  · refine .inr ⟨g, cap, cur, h1, h2, h3.turns ht (fun hb => hp _ hb h2), h4, fun i hi => ?_⟩
    obtain ⟨x, m, k1, k2, k3⟩ := h5 i hi
    exact ⟨x, m, k1, k2, k3.turns ht hp⟩
theorem Pw.of_owp {B : Nat} {w : World} {v : Value} {ps : List (List Int)} (h : Owp B w v ps) (hl : ∀ i, i < ps.length → (ps.getD i []).length ≤ 1000000) : Pw B w.heap.size w v ps.length := by
  obtain ⟨vs, h1, ⟨h2, h⟩, h3⟩ := h
  rcases h with ⟨e, h⟩ | ⟨g, cap, cur, e, k2, k3, k4, k5, k6, k7⟩
  · exact .inl ⟨e, h⟩
  · refine .inr ⟨g, cap, cur, e, ⟨k2, (Array.getElem?_eq_some_iff.1 k3).1⟩, k3, ⟨by omega, by omega⟩, fun i hi => ⟨vs.getD i undef, _, ?_, hl i hi, Rw.of_ow (h3 i hi)⟩⟩
    have : (cur.toList.take (ps.length * 1))[i]? = vs[i]? := by rw [k7]
    rw [List.getElem?_take, if_pos (by omega)] at this
    simp only [Array.getElem?_toList] at this
    rw [this]
    simp [show i < vs.length by omega]

set_option maxHeartbeats 1000000 in
/-- Spoil on a row of the program's own: nothing but blocks between B and T are turned. -/
theorem spoil2_any (B T : Nat) (v : Value) (n : Nat) (w : World) (h : Pw B T w v n) (hB : B ≤ w.heap.size) :
    Calls Try.prog 47 #[v] w fun e w' => e = .returned (.tuple #[]) ∧ SpK B T w w' := by
  have H0 := Lib.hid h
  have K0 := Lib.hid (SpK.refl B T w)
  rcases h with ⟨rfl, rfl⟩ | ⟨g, cap, _, rfl, _, _, hn, _⟩
  · go_enter Try.func47, Try.ntmps47
    go_wp2
    go_loopw [2] (fun i wr => i = .int .i64 0 ∧ wr = w) (fun _ _ => 0)
    case atStart => exact ⟨rfl, rfl⟩
    case round =>
      obtain ⟨rfl, rfl⟩ := hrel
      go_wp2
      go_end0
      exact ⟨rfl, K0.out⟩
  · have hn := hn.2
    unfold maxLen at hn
    go_enter Try.func47, Try.ntmps47
    go_wp2
    go_loopw [2] (fun i wr => ∃ k : Nat, k ≤ n ∧ i = .int .i64 k ∧ Hid (Pw B T wr (.slice (some ⟨g, 0, none⟩) n cap) n) ∧ Hid (SpK B T w wr)) (fun i _ => n - (intOf i).toNat)
    case atStart => exact ⟨0, Nat.zero_le _, rfl, H0, K0⟩
    case round =>
      clear H0 K0
      obtain ⟨k, hk, rfl, HP, HK⟩ := hrel
      by_cases hlt : k < n
      · rcases HP.out with ⟨e, _⟩ | ⟨g', cap', cur2, e, hg, hb2, hs2, hx⟩
        · cases e
        cases e
        obtain ⟨x, m, hxk, hm, hr⟩ := hx k hlt
        have hcell : wr.cell? ⟨g, k, none⟩ = some x := by rw [hb2.cell k]; exact hxk
        have hsz := HK.out.ts.size
        have HR := Lib.hid hr
        have HB2 := Lib.hid hb2
        have HO := Lib.hid (show ∀ b, x.ownBlock = some b → b ≠ g from fun b hbx => by
          rcases hr with ⟨rfl, _⟩ | ⟨g', cap', cur', rfl, r2, r3, _⟩
          · cases hbx
          · cases hbx
            exact r3.ne hb2 (by decide))
        obtain ⟨xa, xn, xc, rfl⟩ : ∃ a n c, x = .slice a n c := by
          rcases hr with ⟨rfl, _⟩ | ⟨g', cap', cur', rfl, _⟩
          · exact ⟨_, _, _, rfl⟩
          · exact ⟨_, _, _, rfl⟩
        have HGg := Lib.hid hg
        clear hr hb2 hx hxk hg
        go_wp2_with (go_at_call 48; refine (spoil_any B T _ m _ HR.out hm (by omega)).mono ?_; rintro e w2 ⟨rfl, k2, t2⟩; have hb4 : Blk w2 g 32 cur2 := HB2.out.turns t2 (fun h => HO.out _ h rfl); have hf := hb4.free k; have hc4 : w2.cell? ⟨g, k, none⟩ = some (.slice xa xn xc) := by rw [hb4.cell k, ← HB2.out.cell k]; exact hcell)
        have s1 := SpK.row HR.out k2 t2
        have s2 := SpK.nil (i := k) hb4 HGg.out
        have HP2 := Lib.hid ((HP.out.keeps s1).keeps s2)
        have HK2 := Lib.hid ((HK.out.trans s1).trans s2)
        clear hb4 hf hc4 k2 t2 s1 s2
        go_wp2
        go_roundw
        case rel => exact ⟨k + 1, by omega, by go_num, HP2, HK2⟩
        case measure => simp [intOf]; omega
      · go_wp2
        go_end0
        exact ⟨rfl, HK.out⟩
end Go.Proofs.Ytjnjhfificpbbaa
namespace Go.Proofs.Ytjnjhfificpbbaa
open Go Go.RowKit

/-- a call that answers the list q wherever it is made -/
def Same2 (f : Nat) (ps q : List (List Int)) : Prop := ∀ v w, Sps w v ps → Calls Try.prog f #[v] w fun e w' => ∃ x, e = .returned (.tuple #[x, .int .i64 0]) ∧ Owp w.heap.size w' x q ∧ Below w.heap.size w w'
/-- a list of few short permutations -/
def Few2 (q : List (List Int)) : Prop := q.length ≤ 5040 ∧ ∀ i, i < q.length → (q.getD i []).length ≤ 7
theorem IsGrp.few2 {q : List (List Int)} (h : IsGrp q) : Few2 q := ⟨h.1.2.1, fun i hi => by rw [(h.1.mem (getD_mem hi)).2]; exact h.seven⟩
theorem close_fix {gs ps : List (List Int)} (hc : ClosedOf gs ps) : Same2 16 gs ps := fun v w h =>
  (Close_ok v gs w h hc.1).mono fun e w' ⟨hb, x, qs, he, ho, hg, h0, hm⟩ => by
    obtain ⟨_, c2, _, c4, _, c6⟩ := hc
    have e1 : qs = ps := grp_ext hg c2 (h0.trans c4.symm) fun a => (hm a).trans (c6 a).symm
    subst e1
    exact ⟨x, he, ho, hb⟩
theorem der_fix {ps : List (List Int)} (hp : IsGrp ps) : ∃ d, Few2 d ∧ Same2 21 ps d := by
  by_cases hd : ∃ d, IsGrp d ∧ (d.getD 0 []).length = (ps.getD 0 []).length ∧ IsDer (pks ps) (pks d)
  · obtain ⟨d, d1, d2, d3⟩ := hd
    refine ⟨d, d1.few2, fun v w h => (Derived_ok v ps w h hp).mono fun e w' ⟨hb, x, q, he, ho, q1, q2, q3⟩ => ?_⟩
    have e1 : q = d := grp_ext q1 d1 (q2.trans d2.symm) fun a => (q3 a).trans (d3 a).symm
    subst e1
    exact ⟨x, he, ho, hb⟩
  · exact ⟨[], ⟨Nat.zero_le _, fun i hi => by cases hi⟩, fun v w h => (Derived_ok v ps w h hp).mono fun e w' ⟨_, _, q, _, _, q1, q2, q3⟩ => absurd ⟨q, q1, q2, q3⟩ hd⟩
theorem cen_fix {ps : List (List Int)} (hp : IsGrp ps) : Same2 25 ps (cenL ps) := fun v w h =>
  (Center_ok v ps w h hp).mono fun e w' ⟨hb, x, G, L, L', he, g, hm, hpm, ha, ho⟩ => ⟨x, he, by rw [← cen_list hp g hm hpm ha]; exact ho, hb⟩
/-- x is a row of such rows -/
def Lws (B T : Nat) (w : World) (x : Value) (N : Nat) : Prop :=
  (x = .slice none 0 0 ∧ N = 0) ∨ ∃ g cap cur, x = .slice (some ⟨g, 0, none⟩) N cap ∧ (B ≤ g ∧ g < T) ∧ Blk w g 22 cur ∧ (N ≤ cur.size ∧ N ≤ maxLen) ∧ ∀ i, i < N → ∃ y m, cur[i]? = some y ∧ Pw B T w y m
theorem Lws.keeps {B T B' T' N : Nat} {w w' : World} {x : Value} (h : Lws B T w x N) (k : SpK B' T' w w') : Lws B T w' x N := by
  rcases h with h | ⟨g, cap, cur, h1, h2, h3, h4, h5⟩
  · exact .inl h
  · exact .inr ⟨g, cap, cur, h1, h2, k.os g _ cur h3 (by decide) (by decide), h4, fun i hi => by
      obtain ⟨y, m, k1, k2⟩ := h5 i hi
      exact ⟨y, m, k1, k2.keeps k⟩⟩
theorem Lws.turns {priv : Nat → Prop} {B T N : Nat} {w w' : World} {x : Value} (h : Lws B T w x N) (ht : Turns priv w w') (hp : ∀ b, priv b → ¬ (B ≤ b ∧ b < T)) : Lws B T w' x N := by
  rcases h with h | ⟨g, cap, cur, h1, h2, h3, h4, h5⟩
  · exact .inl h
  · exact .inr ⟨g, cap, cur, h1, h2, h3.turns ht (fun hb => hp _ hb h2), h4, fun i hi => by
      obtain ⟨y, m, k1, k2⟩ := h5 i hi
      exact ⟨y, m, k1, k2.turns ht hp⟩⟩
theorem Lws.of_row {B : Nat} {w : World} {x : Value} {xs : List Value} (h : VRow B w x xs) (hq : ∀ i, i < xs.length → ∃ q, Owp B w (xs.getD i undef) q ∧ ∀ p ∈ q, p.length ≤ 1000000) : Lws B w.heap.size w x xs.length := by
  obtain ⟨h2, h⟩ := h
  rcases h with ⟨e, h⟩ | ⟨g, cap, cur, e, k2, k3, k4, k5, k6, k7⟩
  · exact .inl ⟨e, by omega⟩
  · refine .inr ⟨g, cap, cur, e, ⟨k2, (Array.getElem?_eq_some_iff.1 k3).1⟩, k3, ⟨by omega, by omega⟩, fun i hi => ?_⟩
    obtain ⟨q, q1, q2⟩ := hq i hi
    refine ⟨xs.getD i undef, _, ?_, Pw.of_owp q1 fun k hk => q2 _ (getD_mem hk)⟩
    have : (cur.toList.take (xs.length * 1))[i]? = xs[i]? := by rw [k7]
    rw [List.getElem?_take, if_pos (by omega)] at this
    simp only [Array.getElem?_toList] at this
    rw [this]
    simp [hi]
theorem series_lws {ps : List (List Int)} (hp : IsGrp ps) (v : Value) (w : World) (h : Sps w v ps) :
    Calls Try.prog 22 #[v] w fun e w' => ∃ x N, e = .returned (.tuple #[x, .int .i64 0]) ∧ Lws w.heap.size w'.heap.size w' x N ∧ Below w.heap.size w w' := by
  have h7 := hp.seven
  refine (Series_any v ps w h fun i hi => by rw [(hp.1.mem (getD_mem hi)).2]; omega).mono fun e w' ⟨hb, hr⟩ => ?_
  obtain ⟨_, x, xs, Ls, he, _, hl, hv, hm⟩ := hr.resolve_left fun h => h.1 hp
  refine ⟨x, xs.length, he, Lws.of_row hv fun i hi => ?_, hb⟩
  obtain ⟨L', _, _, ho⟩ := hm i (by omega)
  refine ⟨_, ho, fun p hpm => ?_⟩
  obtain ⟨y, _, rfl⟩ := List.mem_map.1 hpm
  rw [List.length_take]
  omega
theorem classes_lws {ps : List (List Int)} (hp : IsGrp ps) (v : Value) (w : World) (h : Sps w v ps) :
    Calls Try.prog 26 #[v] w fun e w' => ∃ x N, e = .returned (.tuple #[x, .int .i64 0]) ∧ Lws w.heap.size w'.heap.size w' x N ∧ Below w.heap.size w w' := by
  have h7 := hp.seven
  refine (Classes_ok v ps w h hp).mono fun e w' ⟨hb, x, G, L, S, he, _, _, _, _, xs, h1, h2, h3⟩ => ?_
  refine ⟨x, xs.length, he, Lws.of_row h2 fun i hi => ⟨_, h3 i (by omega), fun p hpm => ?_⟩, hb⟩
  have hi2 : i < ((clsTo S S.length).map fun C => C.map (List.take (ps.getD 0 []).length)).length := by omega
  rw [List.getD_eq_getElem?_getD, List.getElem?_eq_getElem hi2, Option.getD_some, List.getElem_map] at hpm
  obtain ⟨y, _, rfl⟩ := List.mem_map.1 hpm
  rw [List.length_take]
  omega
/-- x is a row of pairs of such rows -/
def Pws (B T : Nat) (w : World) (x : Value) (N : Nat) : Prop :=
  (x = .slice none 0 0 ∧ N = 0) ∨ ∃ g cap cur, x = .slice (some ⟨g, 0, none⟩) N cap ∧ (B ≤ g ∧ g < T) ∧ Blk w g 50 cur ∧ N ≤ maxLen ∧ ∀ j, j < N * 2 → ∃ y m, cur[j]? = some y ∧ m ≤ 1000000 ∧ Rw B T w y m
theorem Pws.keeps {B T B' T' N : Nat} {w w' : World} {x : Value} (h : Pws B T w x N) (k : SpK B' T' w w') : Pws B T w' x N := by
  rcases h with h | ⟨g, cap, cur, h1, h2, h3, h4, h5⟩
  · exact .inl h
  · exact .inr ⟨g, cap, cur, h1, h2, k.os g _ cur h3 (by decide) (by decide), h4, fun i hi => by
      obtain ⟨y, m, k1, k2, k3⟩ := h5 i hi
      exact ⟨y, m, k1, k2, k3.keeps k.ks⟩⟩
theorem Pws.of_prow {B n : Nat} {w : World} {x : Value} {Qs : List (List Int)} (hn : n ≤ 7) (h : Prow B w x n Qs) : Pws B w.heap.size w x Qs.length := by
  obtain ⟨vs, h1, h2, h3⟩ := h
  rcases h2.2 with ⟨e, h0⟩ | ⟨gx, cap, cur, e, hB, hb, k4, k5, _, ht⟩
  · exact .inl ⟨e, h0⟩
  · refine .inr ⟨gx, cap, cur, e, ⟨hB, (Array.getElem?_eq_some_iff.1 hb).1⟩, hb, by omega, fun j hj => ?_⟩
    have hc : cur[j]? = some (vs.getD j undef) := by
      have : vs[j]? = cur.toList[j]? := by
        rw [← ht, List.getElem?_take, if_pos (by omega)]
      rw [← Array.getElem?_toList, ← this, List.getD_eq_getElem?_getD, List.getElem?_eq_getElem (by omega)]
      rfl
    have hl : ∀ l : List Int, (l.take n).length ≤ 1000000 := fun l => by rw [List.length_take]; omega
    obtain ⟨a, b⟩ := h3 (j / 2) (by omega)
    rcases Nat.mod_two_eq_zero_or_one j with q | q
    · rw [show j / 2 * 2 = j by omega] at a
      exact ⟨_, _, hc, hl _, Rw.of_ow a⟩
    · rw [show j / 2 * 2 + 1 = j by omega] at b
      exact ⟨_, _, hc, hl _, Rw.of_ow b⟩
end Go.Proofs.Ytjnjhfificpbbaa
namespace Go.Proofs.Ytjnjhfificpbbaa
open Go Go.RowKit

theorem Owp.turns {priv : Nat → Prop} {A C : World} {B : Nat} {v : Value} {ps : List (List Int)} (h : Owp B A v ps) (ht : Turns priv A C) (hn : ∀ b, B ≤ b → b < A.heap.size → ¬ priv b) : Owp B C v ps := by
  obtain ⟨vs, h1, h2, h3⟩ := h
  refine ⟨vs, h1, ⟨h2.1, ?_⟩, fun i hi => (h3 i hi).turns ht fun r e => ?_⟩
  · rcases h2.2 with k | ⟨g, cap, cur, rfl, k2, k3, k4⟩
    · exact .inl k
    · have hl := (Array.getElem?_eq_some_iff.1 k3).1
      exact .inr ⟨g, cap, cur, rfl, k2, (ht.block g hl (hn g k2 hl)).trans k3, k4⟩
  · have := (h3 i hi).lt r e
    exact hn r this.1 this.2
/-- v reads as the list ps, and lies between the blocks B and T -/
def Owr (B T : Nat) (w : World) (v : Value) (ps : List (List Int)) : Prop := ∃ A : World, A.heap.size = T ∧ Owp B A v ps ∧ Turns (fun b => ¬ (B ≤ b ∧ b < T)) A w
theorem Owr.of {B : Nat} {w : World} {v : Value} {ps : List (List Int)} (h : Owp B w v ps) : Owr B w.heap.size w v ps := ⟨w, rfl, h, Turns.refl _ _⟩
theorem Owr.turns {priv : Nat → Prop} {B T : Nat} {w w' : World} {v : Value} {ps : List (List Int)} (h : Owr B T w v ps) (ht : Turns priv w w') (hp : ∀ b, priv b → ¬ (B ≤ b ∧ b < T)) : Owr B T w' v ps := by
  obtain ⟨A, h1, h2, h3⟩ := h
  exact ⟨A, h1, h2, h3.trans (ht.mono hp)⟩
theorem Owr.owp {B T : Nat} {w : World} {v : Value} {ps : List (List Int)} (h : Owr B T w v ps) : Owp B w v ps := by
  obtain ⟨A, rfl, h, t⟩ := h
  exact h.turns t fun b h1 h2 hn => hn ⟨h1, h2⟩
theorem Owr.pw {B T : Nat} {w : World} {v : Value} {ps : List (List Int)} (h : Owr B T w v ps) (hl : ∀ i, i < ps.length → (ps.getD i []).length ≤ 1000000) : Pw B T w v ps.length := by
  obtain ⟨A, rfl, h, t⟩ := h
  exact (Pw.of_owp h hl).turns t fun b hn => hn
theorem Owr.size {B T : Nat} {w : World} {v : Value} {ps : List (List Int)} (h : Owr B T w v ps) : T ≤ w.heap.size := by
  obtain ⟨A, rfl, h, t⟩ := h
  exact t.size
theorem Owp.form {B : Nat} {w : World} {v : Value} {ps : List (List Int)} (h : Owp B w v ps) : ∃ a c, v = .slice a ps.length c := by
  obtain ⟨a, c, e, _⟩ := h.sps
  exact ⟨a, c, e⟩
theorem Pws.turns {priv : Nat → Prop} {B T N : Nat} {w w' : World} {x : Value} (h : Pws B T w x N) (ht : Turns priv w w') (hp : ∀ b, priv b → ¬ (B ≤ b ∧ b < T)) : Pws B T w' x N := by
  rcases h with h | ⟨g, cap, cur, h1, h2, h3, h4, h5⟩
  · exact .inl h
  · exact .inr ⟨g, cap, cur, h1, h2, h3.turns ht (fun hb => hp _ hb h2), h4, fun i hi => by
      obtain ⟨y, m, k1, k2, k3⟩ := h5 i hi
      exact ⟨y, m, k1, k2, k3.turns ht hp⟩⟩
theorem Lws.form {B T N : Nat} {w : World} {x : Value} (h : Lws B T w x N) : N ≤ maxLen ∧ ∃ a c, x = .slice a N c := by
  rcases h with ⟨rfl, rfl⟩ | ⟨g, cap, cur, h1, h2, h3, h4, h5⟩
  · exact ⟨Nat.zero_le _, _, _, rfl⟩
  · exact ⟨h4.2, _, _, h1⟩
theorem Pws.form {B T N : Nat} {w : World} {x : Value} (h : Pws B T w x N) : N ≤ maxLen ∧ ∃ a c, x = .slice a N c := by
  rcases h with ⟨rfl, rfl⟩ | ⟨g, cap, cur, h1, h2, h3, h4, h5⟩
  · exact ⟨Nat.zero_le _, _, _, rfl⟩
  · exact ⟨h4, _, _, h1⟩
theorem Pw.form {B T N : Nat} {w : World} {x : Value} (h : Pw B T w x N) : ∃ a c, x = .slice a N c := by
  rcases h with ⟨rfl, rfl⟩ | ⟨g, cap, cur, h1, h2, h3, h4, h5⟩
  · exact ⟨_, _, rfl⟩
  · exact ⟨_, _, h1⟩
theorem Rw.form {B T N : Nat} {w : World} {x : Value} (h : Rw B T w x N) : ∃ a c, x = .slice a N c := by
  rcases h with ⟨rfl, rfl⟩ | ⟨g, cap, cur, h1, _⟩
  · exact ⟨_, _, rfl⟩
  · exact ⟨_, _, h1⟩
theorem pairs_pws {ps : List (List Int)} (hp : IsGrp ps) (v u : Value) (z : List Int) (w : World) (h : Sps w v ps) (hu : Sl w u z) (hz : z.length ≤ 1000000) :
    Calls Try.prog 27 #[v, u] w fun e w' => ∃ x N c, e = .returned (.tuple #[x, .int .i64 c]) ∧ Pws w.heap.size w'.heap.size w' x N ∧ Below w.heap.size w w' :=
  (Pairs_ok v u ps z w h hp hu hz).mono fun e w' ⟨hb, hr⟩ => by
    rcases hr with ⟨_, h⟩ | ⟨_, _, h⟩ | ⟨_, _, _, h⟩ | ⟨_, _, _, x, Qs, h, hq, _⟩
    · exact ⟨_, 0, _, h, .inl ⟨rfl, rfl⟩, hb⟩
    · exact ⟨_, 0, _, h, .inl ⟨rfl, rfl⟩, hb⟩
    · exact ⟨_, 0, _, h, .inl ⟨rfl, rfl⟩, hb⟩
    · exact ⟨x, _, _, h, Pws.of_prow hp.seven hq, hb⟩

theorem arr_get {xs : Array Value} {j : Nat} (h : j < xs.size) : xs[j]? = some (xs.getD j undef) := by simp [h]
theorem arr_set {xs : Array Value} {j i : Nat} {v : Value} (hj : j < xs.size) : (xs.setIfInBounds j v).getD i undef = if i = j then v else xs.getD i undef := by
  simp only [Array.getD_eq_getD_getElem?, Array.getElem?_setIfInBounds]
  by_cases e : i = j
  · subst e; simp [hj]
  · rw [if_neg (fun h => e h.symm), if_neg e]
/-- A round, when the first n results are stored in the array at o: W1 is the world ahead of the first call, result j lies between bd j and bd (j + 1). -/
structure OSt (o : Nat) (W1 : World) (rs : List (List (List Int))) (n : Nat) (xs : Array Value) (W : World) (bd : Nat → Nat) : Prop where
  turns : Turns (fun b => b = o) W1 W
  l : Blk W o 54 xs
  size : xs.size = 3
  own : ∀ j, j < n → Owr (bd j) (bd (j + 1)) W (xs.getD j undef) (rs.getD j [])
  b0 : bd 0 = W1.heap.size
  bn : bd n ≤ W.heap.size
  up : ∀ j, j < n → bd j ≤ bd (j + 1)
theorem OSt.zero {o : Nat} {W1 : World} {rs : List (List (List Int))} {xs : Array Value} (h : Blk W1 o 54 xs) (hs : xs.size = 3) : OSt o W1 rs 0 xs W1 (fun _ => W1.heap.size) :=
  ⟨Turns.refl _ _, h, hs, fun j hj => by omega, rfl, Nat.le_refl _, fun j hj => by omega⟩
theorem OSt.lo {o n : Nat} {W1 W : World} {rs : List (List (List Int))} {xs : Array Value} {bd : Nat → Nat} (h : OSt o W1 rs n xs W bd) : ∀ j, j ≤ n → W1.heap.size ≤ bd j := by
  intro j
  induction j with
  | zero => intro _; rw [h.b0]; exact Nat.le_refl _
  | succ j ih => intro hj; exact Nat.le_trans (ih (by omega)) (h.up j (by omega))
theorem OSt.hi {o n : Nat} {W1 W : World} {rs : List (List (List Int))} {xs : Array Value} {bd : Nat → Nat} (h : OSt o W1 rs n xs W bd) : ∀ k, k ≤ n → bd (n - k) ≤ W.heap.size := by
  intro k
  induction k with
  | zero => intro _; exact h.bn
  | succ k ih =>
    intro hk
    have := h.up (n - (k + 1)) (by omega)
    rw [show n - (k + 1) + 1 = n - k by omega] at this
    exact Nat.le_trans this (ih (by omega))
theorem OSt.le {o n : Nat} {W1 W : World} {rs : List (List (List Int))} {xs : Array Value} {bd : Nat → Nat} (h : OSt o W1 rs n xs W bd) {j : Nat} (hj : j ≤ n) : bd j ≤ W.heap.size := by
  have := h.hi (n - j) (by omega)
  rwa [show n - (n - j) = j by omega] at this
theorem OSt.next {o : Nat} {W1 : World} {rs : List (List (List Int))} {n : Nat} {xs : Array Value} {W W' : World} {v : Value} {bd : Nat → Nat} (h : OSt o W1 rs n xs W bd) (hl : o < W1.heap.size) (hn : n < 3)
    (hO : Owp W.heap.size W' v (rs.getD n [])) (hb : Below W.heap.size W W') : OSt o W1 rs (n + 1) (xs.setIfInBounds n v) (W'.setCell ⟨o, n, none⟩ v) (fun j => if j ≤ n then bd j else W'.heap.size) := by
  have hsz := h.turns.size
  have hs := h.size
  have ht : Turns (fun b => b = o) W' (W'.setCell ⟨o, n, none⟩ v) := (Turns.refl _ _).setCell _ _ _ rfl
  have get : ∀ j, j < 3 → (xs.setIfInBounds n v).getD j undef = if j = n then v else xs.getD j undef := fun j hj => arr_set (by omega)
  refine ⟨(h.turns.trans (.of_below hb)).setCell _ _ _ rfl, (h.l.below hb).set n v, by simpa using hs, fun j hj => ?_, by rw [if_pos (Nat.zero_le _)]; exact h.b0, by rw [if_neg (by omega)]; simp, fun j hj => ?_⟩
  · rw [get j (by omega), if_pos (show j ≤ n by omega)]
    by_cases e : j = n
    · subst e
      rw [if_pos rfl, if_neg (show ¬ j + 1 ≤ j by omega)]
      have h1 : Owp (bd j) W' v (rs.getD j []) := hO.mono h.bn
      exact (Owr.of h1).turns ht fun b hbo hr => by have := h.lo j (Nat.le_refl _); omega
    · rw [if_neg e, if_pos (show j + 1 ≤ n by omega)]
      have k1 := h.lo j (by omega)
      have k2 := h.le (show j + 1 ≤ n by omega)
      have k : Owr (bd j) (bd (j + 1)) W' (xs.getD j undef) (rs.getD j []) := by
        have t : Turns (fun b => ¬ (b < W.heap.size)) W W' := ⟨hb.os, hb.tape, hb.output, hb.size, fun b hb2 _ => hb.block b hb2⟩
        exact (h.own j (by omega)).turns t fun b h1 h2 => h1 (by omega)
      exact k.turns ht fun b hbo hr => by omega
  · rw [if_pos (show j ≤ n by omega)]
    by_cases e : j = n
    · subst e
      rw [if_neg (show ¬ j + 1 ≤ j by omega)]
      exact Nat.le_trans h.bn hb.size
    · rw [if_pos (show j + 1 ≤ n by omega)]
      exact h.up j (by omega)
theorem OSt.cell {o n : Nat} {W1 W W' : World} {rs : List (List (List Int))} {xs : Array Value} {bd : Nat → Nat} (h : OSt o W1 rs n xs W bd) (hb : Below W.heap.size W W') (i : Nat) (hi : i < 3) : (∃ u, W'.cell? ⟨o, i, none⟩ = some u) ∧ W'.frozen? ⟨o, i, none⟩ = false := by
  have hB := h.l.below hb
  have hs := h.size
  refine ⟨?_, hB.free i⟩
  rw [hB.cell i]
  exact ⟨_, Array.getElem?_eq_getElem (by omega)⟩
theorem OSt.read {o n S : Nat} {w W1 W : World} {rs : List (List (List Int))} {xs : Array Value} {bd : Nat → Nat} (h : OSt o W1 rs n xs W bd) (hb : Below S w W1) (hS : S ≤ o) (hw : S ≤ w.heap.size) : Below S w W :=
  below_turns hb h.turns (fun b hbS hbl => by omega) hw
theorem Turns.setRow {priv : Nat → Prop} {A B : World} (h : Turns priv A B) (b : Nat) (cs : Array Value) (hp : priv b) : Turns priv A (B.setRow b cs) :=
  h.trans ⟨rfl, rfl, rfl, by simp, fun k _ hn => setRow_other B b k cs (fun e => hn (by rw [e]; exact hp))⟩
theorem infoThree : (Try.prog.info? 54).map (·.size) = some 3 := by kernel_rfl
theorem all_slices3 {B : Nat} {w : World} {ks : Array Value} {rs : List (List (List Int))} (hk : ks.size = 3) (h : ∀ t, t < 3 → Owp B w (ks.getD t undef) (rs.getD t [])) : ks.all (·.oneCell') = true := by
  rw [Array.all_eq_true]
  intro i hi
  obtain ⟨a, c, e⟩ := (h i (by omega)).form
  have : ks[i] = ks.getD i undef := by simp [hi]
  rw [this, e]
  rfl
theorem Lws.at {B T N i : Nat} {w : World} {a : Option Addr} {c : Nat} (h : Lws B T w (.slice a N c) N) (hi : i < N) : ∃ g y n yc, a = some ⟨g, 0, none⟩ ∧ w.cell? ⟨g, i, none⟩ = some (.slice y n yc) ∧ Pw B T w (.slice y n yc) n := by
  rcases h with ⟨_, h⟩ | ⟨g, cap, cur, h1, h2, h3, h4, h5⟩
  · omega
  · obtain ⟨y, m, k1, k2⟩ := h5 i hi
    obtain ⟨ya, yc, rfl⟩ := k2.form
    cases h1
    exact ⟨g, ya, m, yc, rfl, by rw [h3.cell i]; exact k1, k2⟩
theorem Pws.at {B T N j : Nat} {w : World} {a : Option Addr} {c : Nat} (h : Pws B T w (.slice a N c) N) (hj : j < N * 2) : ∃ g y n yc, a = some ⟨g, 0, none⟩ ∧ w.cell? ⟨g, j, none⟩ = some (.slice y n yc) ∧ n ≤ 1000000 ∧ Rw B T w (.slice y n yc) n := by
  rcases h with ⟨_, h⟩ | ⟨g, cap, cur, h1, h2, h3, h4, h5⟩
  · omega
  · obtain ⟨y, m, k1, k2, k3⟩ := h5 j hj
    obtain ⟨ya, yc, rfl⟩ := k3.form
    cases h1
    exact ⟨g, ya, m, yc, rfl, by rw [h3.cell j]; exact k1, k2, k3⟩
theorem GenP.few2 {q : List (List Int)} (h : GenP q) : Few2 q := ⟨h.2.1, fun i hi => by
  have := ((validL_iff _).1 (h.2.2 i hi).1).2.1
  omega⟩
theorem cenL_few2 {ps : List (List Int)} (hp : IsGrp ps) : Few2 (cenL ps) := by
  have h7 := hp.seven
  refine ⟨Nat.le_trans (List.length_filter_le _ _) hp.1.2.1, fun i hi => ?_⟩
  have e : ((cenL ps).getD i []).length = (ps.getD 0 []).length := (hp.1.mem (List.mem_filter.1 (getD_mem hi)).1).2
  omega
theorem Few2.one {q : List (List Int)} (h : Few2 q) : q.length ≤ 1000000 := Nat.le_trans h.1 (by decide)
theorem Few2.two {q : List (List Int)} (h : Few2 q) : ∀ i, i < q.length → (q.getD i []).length ≤ 1000000 := fun i hi => Nat.le_trans (h.2 i hi) (by decide)
theorem few_three {a b c : List (List Int)} (ha : Few2 a) (hb : Few2 b) (hc : Few2 c) (j : Nat) : Few2 ([a, b, c].getD j []) := by
  match j with
  | 0 => exact ha
  | 1 => exact hb
  | 2 => exact hc
  | j + 3 => exact ⟨by simp, fun i hi => by simp at hi⟩
/-- two lists that are one are the same -/
theorem refSame_yes (u v : Value) (ps : List (List Int)) (w : World) (h1 : Sps w u ps) (h2 : Sps w v ps) (hf : Few2 ps) :
    Calls Try.prog 18 #[u, v] w fun e w' => e = .returned (.bool true) ∧ Below w.heap.size w w' :=
  (refSame_any u v ps ps w h1 h2 hf.one hf.two hf.two).mono fun e w' ⟨r, he, hs, hb⟩ => ⟨by rw [he, hs.2 rfl], hb⟩
end Go.Proofs.Ytjnjhfificpbbaa
