/- perm.Conjugator, by its meaning. -/
import Derived.Test.YtcnkegcogepimaaProg
import Derived.Test.YtcnkegcogepimaaBase
import Derived.Test.YtcnkegcogepimaaPair
import Derived.Test.YtcnkegcogepimaaFree
import Derived.Test.YtcnkegcogepimaaConjN
import Derived.Test.YtcnkegcogepimaaCycs2
import Derived.Shelf.Abstract
import Derived.OwnWalkIn
import Derived.TacticsInMore
import Derived.LoopNIn
import Derived.LoopIn
import Derived.RegionIn
namespace Go.Proofs.Ytcnkegcogepimaa
open Go.RowKit Go.Shelf
attribute [local go_sem] Oper.semAt_some

/-- make of a full slice, inside a fence -/
theorem wpListIn_make_all {F : Fence} {n : Nat} {P : Program} (w : World) {ops : Array Oper} {rest : List Oper} {o : Oper} {a : Act} {Q : Exit → Act → World → Prop}
    (hg : o.guard = none) (l c : Operand) (t : TypeId) (hop : o.op = Op.makeSlice t l c)
    (base : Nat) (e : TypeId) (i : TypeInfo) (z : Value) (size : Nat) (h1 : P.underlying t = some (.slice e)) (h2 : P.info? e = some i) (h3 : i.zero = some z) (h4 : i.size = size)
    (kl kc : IntKind) (L C : Int) (m : Nat) (hl : a.eval l = .int kl L) (hc : a.eval c = .int kc C) (hL : L = (m : Int)) (hC : C = (m : Int)) (b2 : i.bytes * m ≤ 281474976710656) (b3 : m ≤ maxLen) (b4 : base ≤ w.heap.size)
    (hK : ∀ w', w'.ownsRow base e size (.slice (some ⟨w.heap.size, 0, none⟩) m m) m (madeCells z.cells (m * size)).toList → w.grownBy w' none → wpListIn F n P ops Q rest (a.put o.dst (.slice (some ⟨w.heap.size, 0, none⟩) m m)) w') :
    wpListIn F n P ops Q (o :: rest) a w := by
  refine wpListIn_plain hg fun K hK' => ?_
  obtain ⟨w', hrun, r1, r2⟩ := run_make_full (P := P) w base t e i z size h1 h2 h3 h4 kl kc m b2 b3 b4
  subst hL
  subst hC
  unfold Oper.wpIn
  refine ⟨?_, ?_⟩
  · simp [Oper.about, hop]
  · rw [Oper.semAt_plain F _ _ (by rw [hop]; intro c hc'; cases hc')]
    simp [execOp, hop, hl, hc, hrun, Result.andThen]
    exact hK' _ _ (hK w' r1 r2)

/-- a whole array, read inside a fence -/
theorem wpListIn_load_all {F : Fence} {n : Nat} {P : Program} {ops : Array Oper} {rest : List Oper} {o : Oper} {a : Act} {w : World} {Q : Exit → Act → World → Prop} (hgd : o.guard = none) (ty : TypeId) (x : Operand) (ho : o.op = .load ty x)
    (g : Nat) (hx : a.eval x = .pointer (some ⟨g, 0, none⟩)) (t : TypeId) (cs : Array Value) (fr : Nat × Nat) (d : TypeDesc) (hg : w.heap[g]? = some (.cells cs t fr))
    (hu : P.underlying ty = some d) (hd : (match d with | .struct _ | .array _ _ => true | _ => false) = true) (hi : (P.info? ty).map (·.size) = some cs.size)
    (h : wpListIn F n P ops Q rest (a.put o.dst (.agg cs)) w) : wpListIn F n P ops Q (o :: rest) a w := by
  refine wpListIn_plain hgd fun K hK => ?_
  unfold Oper.wpIn
  refine ⟨by simp [Oper.about, ho], ?_⟩
  rw [Oper.semAt_plain F _ _ (by rw [ho]; intro c hc'; cases hc')]
  simp [execOp, ho, hx, Instr.loadAt, Instr.sureAddr, Result.andThen, run_loadVar_row w g t ty cs fr d hg hu hd hi]
  exact hK _ _ h

theorem Ow.form {B : Nat} {w : World} {v : Value} {T : List Int} (h : Ow B w v T) (hn : 1 ≤ T.length) : ∃ b o c, v = .slice (some ⟨b, o, none⟩) T.length c ∧ (B ≤ b ∧ b < w.heap.size) ∧ ∀ i, i < T.length → w.cell? ⟨b, o + i, none⟩ = some (.int .i64 (T.getD i 0)) := by
  have hl := h.lt
  obtain ⟨a, c, rfl, hc⟩ := h.sl
  rcases hc with hc | ⟨b, o, rfl, hc⟩
  · rw [hc] at hn; simp at hn
  · exact ⟨b, o, c, rfl, hl b rfl, hc⟩

theorem cf_append (p q : List Int) (js : List Nat) (j : Nat) (k : Nat) : k ≤ js.length → cf p q (js ++ [j]) k = cf p q js k := by
  induction k with
  | zero => intro _; rfl
  | succ k ih =>
    intro hk
    rw [cf, cf, ih (by omega)]
    have e : (js ++ [j]).getD k 0 = js.getD k 0 := by simp [List.getElem?_append, show k < js.length by omega]
    rw [e]
theorem cf_step (p q : List Int) {js : List Nat} {j k : Nat} (hk : js.length = k) : cf p q (js ++ [j]) (k + 1) = fl (cf p q js k) (cyL p (st p k)) (cyL q (st q j)) (per p (st p k)) := by
  rw [cf, cf_append p q js j k (by omega)]
  have e : (js ++ [j]).getD k 0 = j := by simp [← hk]
  rw [e]
theorem usd_step (q : List Int) (js : List Nat) (j : Nat) : usd q (js ++ [j]) = usd q js ++ cyL q (st q j) := by simp [usd]

theorem res_cell2 {fn : Func} {p u : Tmp} (h : fn.results = #[.cell p 23, .cell u 27]) (tmps : Array Value) (W : World) (b c : Nat) (r1 r2 : Value) (hp : tmps.getD p undef = .pointer (some ⟨b, 0, none⟩)) (hu : tmps.getD u undef = .pointer (some ⟨c, 0, none⟩))
    (hb : W.cell? ⟨b, 0, none⟩ = some r1) (hc : W.cell? ⟨c, 0, none⟩ = some r2) : (results fn tmps).run Try.prog W = .ok (.tuple #[r1, r2]) W := by
  have hp' : tmps[p]?.getD undef = .pointer (some ⟨b, 0, none⟩) := by simpa using hp
  have hu' : tmps[u]?.getD undef = .pointer (some ⟨c, 0, none⟩) := by simpa using hu
  simp [results, h, hp', hu', asAddr, loadVar, isAgg, run_underlying Try.underlying23, run_underlying Try.underlying27, go_sem, hb, hc]

theorem infoMarks : (Try.prog.info? 63).map (·.size) = some 7 := by kernel_rfl

theorem chs_none {p q : List Int} {k : Nat} (h : chs p q k = none) : ∀ n, k ≤ n → chs p q n = none := by
  intro n
  induction n with
  | zero => intro hk; obtain rfl : k = 0 := by omega
            exact h
  | succ n ih =>
    intro hk
    by_cases e : k = n + 1
    · subst e; exact h
    · rw [chs, ih (by omega)]; rfl

/-- what Conjugator hands over for alike permutations -/
def cjOut (p q : List Int) (B : Nat) (w' : World) (e : Ending) : Option (List Nat) → Prop
  | none => e = .returned (.tuple #[.slice none 0 0, .int .i64 6])
  | some js => ∃ v, e = .returned (.tuple #[v, .int .i64 0]) ∧ Ow B w' v (cf p q js (cyc p).length)

set_option maxRecDepth 100000 in
set_option maxHeartbeats 8000000 in
theorem conj_ok (v1 v2 : Value) (p q : List Int) (w : World) (h1 : Sl w v1 p) (h2 : Sl w v2 q) (he : errP p q = 0) :
    Calls Try.prog 40 #[v1, v2] w fun e w' => cjOut p q w.heap.size w' e (chs p q (cyc p).length) ∧ Below w.heap.size w w' := by
  obtain ⟨g1, g2, g3⟩ := errP_zero he
  have H1 := Lib.hid h1
  have H2 := Lib.hid h2
  have HE := Lib.hid he
  have V1 := Lib.hid g1
  have V2 := Lib.hid g2
  have hp7 := ((validL_iff p).1 g1).2.1
  have hp := valid_small' g1
  have hq := valid_small' g2
  obtain ⟨a, ca, rfl, _⟩ := h1
  obtain ⟨b, cb, rfl, _⟩ := h2
  obtain ⟨i0, hi, hz0, hz1, hz2⟩ := info_parts infoInt
  refine (callsIn_wide (n := 3)).1 ?_
  refine callsIn_of_wp_marks Try.func40 rfl trivial ?_ rfl
  simp only [Try.ntmps40, List.size_toArray, List.length_cons, List.length_nil, Nat.reduceAdd, Nat.reduceSub, Array.replicate_succ, Array.replicate_zero, List.push_toArray, List.append_toArray, List.nil_append, List.cons_append]
  have G3 := Lib.hid g3
  clear he g1 g2 g3
  have B0 : Below w.heap.size w (((w.alloc (Obj.cells #[Value.slice b q.length cb] 23)).alloc (Obj.cells #[Value.slice none 0 0] 23)).alloc (Obj.cells #[Value.int .i64 0] 27)) := (((Below.refl _ w).alloc (Nat.le_refl _) _).alloc (by simp) _).alloc (by simp; omega) _
  have HB0 := Lib.hid B0
  clear B0
  gi_wp2_with (first
    | (refine ⟨trivial, ?_⟩; gi_at_call 56; refine (callsIn_wide.2 (pair_any _ _ p q _ (H1.out.below HB0.out) (H2.out.below HB0.out) hp hq)).mono ?_; rintro e w2 ⟨rfl, b2⟩; rw [HE.out])
    | (gi_at_make; refine wpListIn_make_all _ rfl _ _ 23 rfl w2.heap.size 3 i0 (.int .i64 0) 1 Try.underlying23 hi hz0 hz1 _ _ _ _ p.length rfl rfl rfl rfl (by rw [hz2]; omega) (by unfold maxLen; omega) (Nat.le_refl _) ?_; intro w3 hown hgrow)
    | (refine ⟨trivial, ?_⟩; gi_at_call 51; refine (callsIn_wide.2 (cycles_any _ _ _ _)).mono ?_; rintro e w4 ⟨rfl, rfl⟩))
  obtain ⟨s, hs0⟩ : ∃ s, s = w.heap.size := ⟨_, rfl⟩
  obtain ⟨r, hr0⟩ : ∃ r, r = w2.heap.size := ⟨_, rfl⟩
  obtain ⟨t, ht0⟩ : ∃ t, t = w3.heap.size := ⟨_, rfl⟩
  obtain ⟨W4, hW4⟩ : ∃ W4, W4 = ((w3.alloc (Obj.cells #[Value.slice (some ⟨w2.heap.size, 0, none⟩) p.length p.length] 23)).alloc (Obj.cells #[Value.bool false, Value.bool false, Value.bool false, Value.bool false, Value.bool false, Value.bool false, Value.bool false] 63)).alloc (Obj.cells #[Value.slice a p.length ca] 23) := ⟨_, rfl⟩
  have hsz : W4.heap.size = t + 3 := by rw [hW4, ht0]; simp
  have n0 := blk_of_made hown
  have hrt : r < t := by rw [hr0, ht0]; exact n0.lt
  have n1 := Blk.new w3 23 #[Value.slice (some ⟨w2.heap.size, 0, none⟩) p.length p.length]
  have n2 := Blk.new (w3.alloc (Obj.cells #[Value.slice (some ⟨w2.heap.size, 0, none⟩) p.length p.length] 23)) 63 #[Value.bool false, Value.bool false, Value.bool false, Value.bool false, Value.bool false, Value.bool false, Value.bool false]
  have n3 := Blk.new ((w3.alloc (Obj.cells #[Value.slice (some ⟨w2.heap.size, 0, none⟩) p.length p.length] 23)).alloc (Obj.cells #[Value.bool false, Value.bool false, Value.bool false, Value.bool false, Value.bool false, Value.bool false, Value.bool false] 63)) 23 #[Value.slice a p.length ca]
  rw [← hW4] at n3
  have hC0 : Blk W4 r 3 (ints (cf p q [] 0)) := by rw [hW4, hr0]; exact ((n0.alloc _).alloc _).alloc _
  have hC1 : Blk W4 t 23 #[.slice (some ⟨r, 0, none⟩) p.length p.length] := by rw [hW4, ht0, hr0]; exact (n1.alloc _).alloc _
  have hC2 : Blk W4 (t + 1) 63 (mk []) := by rw [mk_nil, hW4, ht0]; have := n2.alloc (Obj.cells #[Value.slice a p.length ca] 23); rwa [World.size_alloc] at this
  have hC3 : Blk W4 (t + 2) 23 #[.slice a p.length ca] := by rw [ht0]; rwa [World.size_alloc, World.size_alloc] at n3
  have m1 := Blk.new w 23 #[Value.slice b q.length cb]
  have m2 := Blk.new (w.alloc (Obj.cells #[Value.slice b q.length cb] 23)) 23 #[Value.slice none 0 0]
  have m3 := Blk.new ((w.alloc (Obj.cells #[Value.slice b q.length cb] 23)).alloc (Obj.cells #[Value.slice none 0 0] 23)) 27 #[Value.int .i64 0]
  have hbg := Below.of_grown hgrow
  have hup : ∀ (blk : Nat) (ty : TypeId) (cs : Array Value), Blk w2 blk ty cs → Blk W4 blk ty cs := fun blk ty cs h => by rw [hW4]; exact (((h.below hbg).alloc _).alloc _).alloc _
  have hD0 : Blk W4 s 23 #[.slice b q.length cb] := hup _ _ _ (by rw [hs0]; exact ((m1.alloc _).alloc _).below b2)
  have hD1 : Blk W4 (s + 1) 23 #[.slice none 0 0] := hup _ _ _ (by rw [hs0]; have := (m2.alloc (Obj.cells #[Value.int .i64 0] 27)).below b2; rwa [World.size_alloc] at this)
  have hD2 : Blk W4 (s + 2) 27 #[.int .i64 0] := hup _ _ _ (by rw [hs0]; have := m3.below b2; rwa [World.size_alloc, World.size_alloc] at this)
  have hsr : s + 3 ≤ r := by have := b2.size; simp at this; omega
  have hb3 : Below s w w3 := by rw [hs0]; exact (HB0.out.trans (b2.mono HB0.out.size)).trans (hbg.mono (by have := (HB0.out.trans (b2.mono HB0.out.size)).size; omega))
  have hb4 : Below s w W4 := by rw [hW4]; exact ((hb3.alloc (by omega) _).alloc (by simp; omega) _).alloc (by simp; omega) _
  rw [← hW4, ← hr0, ← ht0, ← hs0]
  have HS0 := Lib.hid hs0
  clear hs0 hr0 ht0 hW4 n0 n1 n2 n3 m1 m2 m3 hbg hup hb3 b2 hown hgrow hi hz0 hz1 hz2
  refine wpIn_range_idx (m := 1) (gf := 61) (lb := #[.pointer (some ⟨t + 2, 0, none⟩)]) rfl (enters_of Try.func61 (by kernel_rfl) rfl)
    (N := (cyc p).length) (item := cyItem p (W4.heap.size + 2)) (priv := fun b => b = W4.heap.size + 2) (keep := cyKeep s (t + 2) (W4.heap.size + 2))
    (fun W hbW hsW => by
      have := iter_seq s (t + 2) (.slice a p.length ca) p V1.out W (hC3.below hbW) (by omega) (SlUp.of_below H1.out HS0.out (hb4.trans (hbW.mono (by omega))))
      rw [hsW] at this
      exact this)
    (fun b hb => by omega) (fun h k => h.trans k) (fun W o => cyKeep.putObj W o (by omega) (by omega) (by omega))
    (fun k vs W hi => by obtain ⟨v, rfl, _⟩ := hi; rfl) (fun k vs W o hs hi => cyItem.putObj o hi (by omega))
    (fun k W => ∃ js, Hid (chs p q k = some js) ∧ (Blk W r 3 (ints (cf p q js k)) ∧ Blk W t 23 #[.slice (some ⟨r, 0, none⟩) p.length p.length] ∧ Blk W (t + 1) 63 (mk (usd q js))) ∧ (Blk W s 23 #[.slice b q.length cb] ∧ Blk W (s + 1) 23 #[.slice none 0 0] ∧ Blk W (s + 2) 27 #[.int .i64 0]) ∧ Below s w W)
    (fun c k W => c = .ret ∧ Hid (chs p q (k + 1) = none) ∧ (Blk W (s + 1) 23 #[.slice none 0 0] ∧ Blk W (s + 2) 27 #[.int .i64 6]) ∧ Below s w W)
    (fun k A B hI ht => by
      obtain ⟨js, h0, ⟨h1, h2, h3⟩, ⟨h4, h5, h6⟩, h7⟩ := hI
      exact ⟨js, h0, ⟨h1.turns ht (by omega), h2.turns ht (by omega), h3.turns ht (by omega)⟩, ⟨h4.turns ht (by omega), h5.turns ht (by omega), h6.turns ht (by omega)⟩, below_turns h7 ht (fun b hb => by omega) (by have := HS0.out; omega)⟩)
    (fun c k A B hI ht => by
      obtain ⟨h0, h1, ⟨h2, h3⟩, h4⟩ := hI
      exact ⟨h0, h1, ⟨h2.turns ht (by omega), h3.turns ht (by omega)⟩, below_turns h4 ht (fun b hb => by omega) (by have := HS0.out; omega)⟩)
    ⟨[], Lib.hid rfl, ⟨hC0, hC1, hC2⟩, ⟨hD0, hD1, hD2⟩, hb4⟩
    (fun vs => { tmps := #[.slice a p.length ca, .slice b q.length cb, undef, .pointer (some ⟨s, 0, none⟩), .pointer (some ⟨s + 1, 0, none⟩), .pointer (some ⟨s + 2, 0, none⟩), .int .i64 0, .pointer (some ⟨t, 0, none⟩), .pointer (some ⟨t + 1, 0, none⟩), vs.getD 0 undef, undef, undef, undef, .slice a p.length ca, .slice b q.length cb, .int .i64 0, .int .i64 0, .bool false, undef, .slice a p.length ca, .int .i64 p.length, .slice (some ⟨r, 0, none⟩) p.length p.length, .slice a p.length ca, .func (.func 61) #[] #[.pointer (some ⟨t + 2, 0, none⟩)], vs.getD 0 undef, undef, undef, undef, undef, undef, undef, undef, undef, undef, undef, undef, undef, undef, undef, undef, undef, undef, undef, undef, undef, undef, undef, undef, undef, undef, undef, undef, undef], defers := [] }) ?assign ?body ?done ?stop
  case assign =>
    rintro l k vs W K ⟨v, rfl, _⟩ hK
    gi_wp2
    exact hK
  case body =>
    rintro l k vs W hk ⟨js, hjs, ⟨h1, h2, h3⟩, ⟨h4, h5, h6⟩, hbW⟩ ⟨v, rfl, hO, hsW⟩ hs2
    have hlen := cyc_length hk
    have hst := st_pt hk
    have hL0 := (st_spec hk).2.1
    have hper7 : per p (st p k) ≤ 7 := by have := (per_spec V1.out hst).1; omega
    have hpos := per_pos p (st p k)
    have hstep : chs p q (k + 1) = (pk q ((cyc p).getD k []).length (usd q js)).map fun j => js ++ [j] := by rw [chs, hjs.out]; rfl
    have HO := Lib.hid hO
    obtain ⟨a2, c2, rfl, hc2⟩ := hO.sl
    obtain ⟨L, hL⟩ : ∃ L, L = (cyc p).getD k [] := ⟨_, rfl⟩
    rw [← hL] at HO hlen hL0 hstep hc2 ⊢
    rw [← hlen] at hper7 hpos
    have HC2 := Lib.hid hc2
    have HL0 := Lib.hid hL0
    have HLen := Lib.hid hlen
    have HST := Lib.hid hst
    have HSq : Hid (Sl W (.slice b q.length cb) q) := Lib.hid (H2.out.below (by have := hbW; rwa [HS0.out] at this))
    have H1' := Lib.hid h1
    have H2' := Lib.hid h2
    have H3' := Lib.hid h3
    have H4' := Lib.hid h4
    have H5' := Lib.hid h5
    have H6' := Lib.hid h6
    have k4 : W.cell? ⟨s, 0, none⟩ = some (.slice b q.length cb) := by simpa using h4.cell 0
    have k5 : W.cell? ⟨s + 1, 0, none⟩ = some (.slice none 0 0) := by simpa using h5.cell 0
    have k6 : W.cell? ⟨s + 2, 0, none⟩ = some (.int .i64 0) := by simpa using h6.cell 0
    clear hO hL hL0 hlen hst h1 h2 h3 h4 h5 h6 hc2
    rcases hpk : pk q L.length (usd q js) with _ | j
    · have HPK := Lib.hid hpk
      rw [hpk] at hstep
      have HStep := Lib.hid hstep
      have hnil : ∀ W : World, (binOp .eql 22 (.slice none 0 0) (.slice none 0 0)).run Try.prog W = .ok (.bool true) W := fun _ => rfl
      clear hpk hstep
      gi_wp2_with (first
        | (refine wpListIn_load_all rfl 63 (.tmp 8) rfl (t + 1) rfl 63 (mk (usd q js)) (0, 0) _ H3'.out Try.underlying63 rfl (by rw [size_mk]; exact infoMarks) ?_)
        | (refine ⟨trivial, ?_⟩; gi_at_call 58; refine (CallsIn.inRound l (callsIn_wide.2 (free_any _ q L.length (usd q js) _ HSq.out V2.out))).mono ?_; rintro e w3 ⟨to, rfl, hto, hb3⟩; rw [HPK.out] at hto; obtain rfl : to = .slice none 0 0 := hto; have f5 := (H5'.out.below hb3).free 0; have f6 := (H6'.out.below hb3).free 0; have k5' : w3.cell? ⟨s + 1, 0, none⟩ = some (.slice none 0 0) := by simpa using (H5'.out.below hb3).cell 0
           have k6' : w3.cell? ⟨s + 2, 0, none⟩ = some (.int .i64 0) := by simpa using (H6'.out.below hb3).cell 0))
      have hz3 := hb3.size
      have hb5 := hbW.trans (hb3.mono (by have := hbW.size; have := HS0.out; omega))
      have e1 : ∀ blk, blk < W.heap.size → blk ≠ s + 1 → blk ≠ s + 2 → ((w3.setCell ⟨s + 1, 0, none⟩ (.slice none 0 0)).setCell ⟨s + 2, 0, none⟩ (.int .i64 6)).heap[blk]? = W.heap[blk]? := fun blk h1 h2 h3 => (Below.heap_setCell _ _ _ _ (by show blk ≠ s + 2; exact h3)).trans ((Below.heap_setCell _ _ _ _ (by show blk ≠ s + 1; exact h2)).trans (hb3.block blk h1))
      refine ⟨⟨e1 _ (by omega) (by omega) (by omega), e1 _ (by omega) (by omega) (by omega)⟩, rfl, Lib.hid HStep.out, ⟨?_, ?_⟩, (hb5.setCell (by show s ≤ s + 1; omega) _).setCell (by show s ≤ s + 2; omega) _⟩
      · exact ((H5'.out.below hb3).set 0 (.slice none 0 0)).other _ _ _ (by omega)
      · exact ((H6'.out.below hb3).other (s + 1) 0 (.slice none 0 0) (by omega)).set 0 (.int .i64 6)
    · have HPK := Lib.hid hpk
      obtain ⟨q1, q2, _⟩ := pk_some hpk
      rw [hpk] at hstep
      have HStep := Lib.hid hstep
      obtain ⟨T, hT⟩ : ∃ T, T = cyL q (st q j) := ⟨_, rfl⟩
      have hTl : T.length = L.length := by rw [hT, length_cyL, q2]
      have HT := Lib.hid hT
      have HTl := Lib.hid hTl
      have HQ1 := Lib.hid q1
      have hnil : ∀ (W : World) (A : Addr) (n c : Nat), (binOp .eql 22 (.slice (some A) n c) (.slice none 0 0)).run Try.prog W = .ok (.bool false) W := fun _ _ _ _ => rfl
      clear hpk hstep hT hTl q1 q2
      gi_wp2_with (first
        | (refine wpListIn_load_all rfl 63 (.tmp 8) rfl (t + 1) rfl 63 (mk (usd q js)) (0, 0) _ H3'.out Try.underlying63 rfl (by rw [size_mk]; exact infoMarks) ?_)
        | (refine ⟨trivial, ?_⟩; gi_at_call 58; refine (CallsIn.inRound l (callsIn_wide.2 (free_any _ q L.length (usd q js) _ HSq.out V2.out))).mono ?_; rintro e w3 ⟨to, rfl, hto, hb3⟩; rw [HPK.out] at hto; have HTo : Hid (Ow W.heap.size w3 to T) := Lib.hid (by rw [HT.out]; exact hto)
           clear hto
           obtain ⟨b3, o3, c3, rfl, hbb, hc3⟩ := HTo.out.form (by rw [HTl.out]; exact hpos)
           have HC3 := Lib.hid hc3
           clear hc3))
      obtain ⟨b3l, b3h⟩ := hbb
      have hz3 := hb3.size
      gi_loopw [34] (fun i w5 => ∃ n : Nat, n ≤ L.length ∧ i = .int .i64 n ∧ Hid (Blk w5 r 3 (ints (fl (cf p q js k) L T n))) ∧ Hid (Blk w5 (t + 1) 63 (mk (usd q js ++ T.take n))) ∧ Hid (Turns (fun b => b = r ∨ b = t + 1) w3 w5)) (fun i _ => L.length - (intOf i).toNat)
      case atStart => exact ⟨0, Nat.zero_le _, rfl, Lib.hid (H1'.out.below hb3), by rw [List.take_zero, List.append_nil]; exact Lib.hid (H3'.out.below hb3), Lib.hid (Turns.refl _ _)⟩
      case round =>
        obtain ⟨n, hn, rfl, hF, hM, hT⟩ := hrel
        have hTT : Turns (fun b => b = r ∨ b = t + 1) W wr := (Turns.of_below hb3).trans hT.out
        by_cases hlt : n < L.length
        · rcases HC2.out with h | ⟨bL, oL, e, cL⟩
          · rw [h] at hlt; simp at hlt
          subst e
          obtain ⟨l1, l2⟩ := HO.out.lt bL rfl
          obtain ⟨x, hx0⟩ : ∃ x, x = L.getD n 0 := ⟨_, rfl⟩
          obtain ⟨y, hy0⟩ : ∃ y, y = T.getD n 0 := ⟨_, rfl⟩
          have hxp : pt p x := cyL_pt V1.out HST.out x (by rw [← HL0.out, hx0]; simp [hlt])
          have hnT : n < T.length := by rw [HTl.out]; exact hlt
          have hyp : pt q y := cyL_pt V2.out (st_pt HQ1.out) y (by rw [← HT.out, hy0]; simp [hnT])
          have hq7 := ((validL_iff q).1 V2.out).2.1
          have g1 : wr.cell? ⟨bL, oL + n, none⟩ = some (.int .i64 x) := by rw [hx0]; exact (cell_turned hTT l2 (by omega)).trans (cL n hlt)
          have g2 : wr.cell? ⟨b3, o3 + n, none⟩ = some (.int .i64 y) := by rw [hy0]; exact (cell_turned hT.out b3h (by omega)).trans (HC3.out n hnT)
          have g3 : wr.cell? ⟨t, 0, none⟩ = some (.slice (some ⟨r, 0, none⟩) p.length p.length) := by simpa using (H2'.out.turns hTT (by omega)).cell 0
          obtain ⟨x0, x1⟩ := hxp
          obtain ⟨y0, y1⟩ := hyp
          obtain ⟨xn, rfl⟩ := Int.eq_ofNat_of_zero_le x0
          obtain ⟨yn, rfl⟩ := Int.eq_ofNat_of_zero_le y0
          have hxl : xn < p.length := by omega
          have hy7 : yn < 7 := by omega
          have g4 : ∃ u, wr.cell? ⟨r, xn, none⟩ = some u := by
            rw [hF.out.cell xn, ints_get _ _ (by rw [length_fl, length_cf]; exact hxl)]; exact ⟨_, rfl⟩
          obtain ⟨u4, g4⟩ := g4
          have f4 := hF.out.free xn
          have g5 : ∃ u, wr.cell? ⟨t + 1, yn, none⟩ = some u := by rw [hM.out.cell yn, mk_get _ _ hy7]; exact ⟨_, rfl⟩
          obtain ⟨u5, g5⟩ := g5
          have f5 := hM.out.free yn
          have HX := Lib.hid hx0
          have HY := Lib.hid hy0
          have HTT := Lib.hid hTT
          clear hx0 hy0 cL hTT x0 y0 x1 y1
          have hFr := (hF.out.set xn (.int .i64 yn)).other (t + 1) yn (.bool true) (by omega)
          rw [ints_set] at hFr
          have hMr := (hM.out.other r xn (.int .i64 yn) (by omega)).set yn (.bool true)
          rw [mk_set, mk_congr (t := usd q js ++ T.take (n + 1)) (fun z => by
            have e := HY.out
            simp [hnT] at e
            rw [List.take_succ_eq_append_getElem hnT]
            simp [← e]
            constructor
            · rintro (h | h | h) <;> simp [h]
            · rintro (h | h | h) <;> simp [h])] at hMr
          have hTr := (hT.out.setCell r xn (.int .i64 yn) (.inl rfl)).setCell (t + 1) yn (.bool true) (.inr rfl)
          have hfl : fl (cf p q js k) L T (n + 1) = (fl (cf p q js k) L T n).set xn (yn : Int) := by rw [fl, ← HX.out, ← HY.out]; rfl
          rw [← hfl] at hFr
          have FIN : Hid ((∃ n_1, n_1 ≤ L.length ∧ Value.int IntKind.i64 ((n : Int) + 1) = Value.int IntKind.i64 (n_1 : Nat) ∧
              Hid (Blk ((wr.setCell ⟨r, xn, none⟩ (.int .i64 yn)).setCell ⟨t + 1, yn, none⟩ (.bool true)).drew r 3 (ints (fl (cf p q js k) L T n_1))) ∧
              Hid (Blk ((wr.setCell ⟨r, xn, none⟩ (.int .i64 yn)).setCell ⟨t + 1, yn, none⟩ (.bool true)).drew (t + 1) 63 (mk (usd q js ++ T.take n_1))) ∧
              Hid (Turns (fun b => b = r ∨ b = t + 1) w3 ((wr.setCell ⟨r, xn, none⟩ (.int .i64 yn)).setCell ⟨t + 1, yn, none⟩ (.bool true)).drew)) ∧
              L.length - (intOf (Value.int IntKind.i64 ((n : Int) + 1))).toNat < L.length - (intOf (Value.int IntKind.i64 n)).toNat) :=
            Lib.hid ⟨⟨n + 1, by omega, rfl, Lib.hid hFr, Lib.hid hMr, Lib.hid ⟨hTr.os, hTr.tape, hTr.output, hTr.size, hTr.block⟩⟩, by simp [intOf]; omega⟩
          clear hFr hMr hTr hfl hF hM hT
          gi_wp2
          gi_region
          all_goals gi_wp2
          all_goals exact FIN.out
        · have hne : n = L.length := by omega
          have hlt' : L.length ≤ n := by omega
          have hjl := (chs_chosen k (by omega) js hjs.out).1
          have FF : Hid (Blk wr r 3 (ints (cf p q (js ++ [j]) (k + 1)))) := Lib.hid (by
            rw [cf_step p q hjl, ← HL0.out, ← HT.out, ← HLen.out, ← hne]; exact hF.out)
          have MM : Hid (Blk wr (t + 1) 63 (mk (usd q (js ++ [j])))) := Lib.hid (by
            rw [usd_step, ← HT.out]; have := hM.out; rwa [hne, List.take_of_length_le (by rw [HTl.out]; exact Nat.le_refl _)] at this)
          have HTT := Lib.hid hTT
          clear hne hjl hTT hF hM hT
          gi_wp2
          have hbl : ∀ blk, blk < W.heap.size → blk ≠ r → blk ≠ t + 1 → wr.heap[blk]? = W.heap[blk]? := fun blk h1 h2 h3 => HTT.out.block blk h1 (by omega)
          refine ⟨⟨hbl _ (by omega) (by omega) (by omega), hbl _ (by omega) (by omega) (by omega)⟩, ⟨HTT.out.size, fun blk hbk => hbl blk (by omega) (by omega) (by omega)⟩, js ++ [j], Lib.hid HStep.out, ⟨FF.out, H2'.out.turns HTT.out (by omega), MM.out⟩, ⟨H4'.out.turns HTT.out (by omega), H5'.out.turns HTT.out (by omega), H6'.out.turns HTT.out (by omega)⟩, below_turns hbW HTT.out (fun b hb => by omega) (by have := HS0.out; omega)⟩
  case done =>
    rintro W ⟨js, hjs, ⟨h1, h2, h3⟩, ⟨h4, h5, h6⟩, hbW⟩ hD
    have k2 : W.cell? ⟨t, 0, none⟩ = some (.slice (some ⟨r, 0, none⟩) p.length p.length) := by simpa using h2.cell 0
    have k5 : W.cell? ⟨s + 1, 0, none⟩ = some (.slice none 0 0) := by simpa using h5.cell 0
    have k6 : W.cell? ⟨s + 2, 0, none⟩ = some (.int .i64 0) := by simpa using h6.cell 0
    have f5 := h5.free 0
    have f6 := h6.free 0
    have hDl : W4.heap.size < W.heap.size := (Array.getElem?_eq_some_iff.1 hD).1
    have H1' := Lib.hid h1
    have H5' := Lib.hid h5
    have H6' := Lib.hid h6
    clear h1 h2 h3 h4 h5 h6
    gi_wp2
    have hD2 : ((W.setCell ⟨s + 1, 0, none⟩ (.slice (some ⟨r, 0, none⟩) p.length p.length)).setCell ⟨s + 2, 0, none⟩ (.int .i64 0)).heap[W4.heap.size]? = some (.deferred (some [])) := (Below.heap_setCell _ _ _ _ (by show _ ≠ s + 2; omega)).trans ((Below.heap_setCell _ _ _ _ (by show _ ≠ s + 1; omega)).trans hD)
    refine ⟨by simp, .inl ⟨_, _, rfl, run_takeDeferred hD2, ?_⟩⟩
    have HC5 := ((H5'.out.set 0 (.slice (some ⟨r, 0, none⟩) p.length p.length)).other (s + 2) 0 (.int .i64 0) (by omega)).turns (Turns.putObj (priv := fun b => b = W4.heap.size) _ _ (.deferred none) rfl) (by omega)
    have HC6 := ((H6'.out.other (s + 1) 0 (.slice (some ⟨r, 0, none⟩) p.length p.length) (by omega)).set 0 (.int .i64 0)).turns (Turns.putObj (priv := fun b => b = W4.heap.size) _ _ (.deferred none) rfl) (by omega)
    have HC1 := ((H1'.out.other (s + 1) 0 (.slice (some ⟨r, 0, none⟩) p.length p.length) (by omega)).other (s + 2) 0 (.int .i64 0) (by omega)).turns (Turns.putObj (priv := fun b => b = W4.heap.size) _ _ (.deferred none) rfl) (by omega)
    refine ⟨_, res_cell2 rfl _ _ (s + 1) (s + 2) (.slice (some ⟨r, 0, none⟩) p.length p.length) (.int .i64 0) rfl rfl (by simpa using HC5.cell 0) (by simpa using HC6.cell 0), ?_, ?_⟩
    · rw [hjs.out]
      exact ⟨_, rfl, (Ow.of_blk HC1 (by have := HS0.out; omega) (by rw [length_cf]; exact hp) p.length (length_cf _ _ _ _).symm)⟩
    · rw [← HS0.out]
      exact below_turns ((hbW.setCell (by show s ≤ s + 1; omega) _).setCell (by show s ≤ s + 2; omega) _) (Turns.putObj (priv := fun b => b = W4.heap.size) _ _ _ rfl) (fun b hb => by omega) (by have := HS0.out; omega)
  case stop =>
    rintro c k W hk ⟨rfl, h1, ⟨h2, h3⟩, h4⟩ hD
    gi_wp2
    refine ⟨by simp, .inl ⟨_, _, rfl, run_takeDeferred hD, ?_⟩⟩
    have HC5 := h2.turns (Turns.putObj (priv := fun b => b = W4.heap.size) _ _ (.deferred none) rfl) (by omega)
    have HC6 := h3.turns (Turns.putObj (priv := fun b => b = W4.heap.size) _ _ (.deferred none) rfl) (by omega)
    refine ⟨_, res_cell2 rfl _ _ (s + 1) (s + 2) (.slice none 0 0) (.int .i64 6) rfl rfl (by simpa using HC5.cell 0) (by simpa using HC6.cell 0), ?_, ?_⟩
    · rw [chs_none h1.out _ (by omega)]
      rfl
    · rw [← HS0.out]
      exact below_turns h4 (Turns.putObj (priv := fun b => b = W4.heap.size) _ _ _ rfl) (fun b hb => by omega) (by have := HS0.out; omega)
end Go.Proofs.Ytcnkegcogepimaa
