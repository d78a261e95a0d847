/- The walks of the statements' own functions, tenth part: PermOwn. -/
import Derived.Test.YtcnkegcogepimaaProg
import Derived.Test.YtcnkegcogepimaaBase
import Derived.Test.YtcnkegcogepimaaLawA
import Derived.Test.YtcnkegcogepimaaLawH
import Derived.Test.YtcnkegcogepimaaOwn
import Derived.Lib.QuietBelow
import Derived.BigQuiet
namespace Go.Proofs.Ytcnkegcogepimaa
open Go.RowKit Go.Sort

set_option maxRecDepth 100000 in
set_option maxHeartbeats 4000000 in
theorem own_law (v1 v2 : Value) (p q : List Int) (k : Int) (w : World) (h1 : Sl w v1 p) (h2 : Sl w v2 q) :
    Calls Try.prog 12 #[v1, v2, .int .i64 k] w fun e w' => e = .returned (.bool true) ∧ Below w.heap.size w w' := by
  have H1 := Lib.hid h1
  have H2 := Lib.hid h2
  obtain ⟨a, ca, rfl, _⟩ := h1
  obtain ⟨b, cb, rfl, _⟩ := h2
  have hs := sls_two w a b p.length ca q.length cb
  have HS := Lib.hid hs
  have B0 := Lib.hid ((Below.refl _ w).alloc (Nat.le_refl _) (.cells #[.slice a p.length ca, .slice b q.length cb] 23))
  clear hs
  by_cases hsh : p.length ≤ 100 ∧ q.length ≤ 100
  · have HB := Lib.hid (short_two (a := a) (b := b) (c := ca) (d := cb) hsh)
    obtain ⟨hp0, hq0⟩ := hsh
    have hp : p.length ≤ 1000000 := by omega
    have hq : q.length ≤ 1000000 := by omega
    go_enter Try.func12, Try.ntmps12
    go_wp2_with fail
    refine (short_any _ _ _ HS.out (by simp)).mono ?_
    rintro e w1 ⟨rfl, rfl⟩
    rw [HB.out]
    have hG1 : Blk ((w.alloc (.cells #[.slice a p.length ca, .slice b q.length cb] 23)).alloc (.cells #[] 3)) (w.heap.size + 1) 3 #[] := by
      have := Blk.new (w.alloc (.cells #[.slice a p.length ca, .slice b q.length cb] 23)) 3 #[]
      rwa [World.size_alloc] at this
    have hb1 : Below w.heap.size w ((w.alloc (.cells #[.slice a p.length ca, .slice b q.length cb] 23)).alloc (.cells #[] 3)) := B0.out.alloc B0.out.size _
    have HG1 := Lib.hid hG1
    have HB1 := Lib.hid hb1
    clear hG1 hb1
    go_wp2_with (at_builtin; first | (refine wpList_append_copy rfl (.tmp 22) (.tmp 23) rfl (w.heap.size + 1) rfl HG1.out _ p rfl (H1.out.below HB1.out) hp ?_; intro va wa hOa hga; have HOa := Lib.hid hOa; have BA := Lib.hid (HB1.out.grown hga HB1.out.size (fun k e => by cases e; omega)); clear hOa hga) | (refine wpList_append_copy rfl (.tmp 25) (.tmp 26) rfl wa.heap.size rfl (Blk.new wa 3 #[]) _ q rfl (H2.out.below (BA.out.alloc BA.out.size _)) hq ?_; intro vb wb hOb hgb; have HOb := Lib.hid hOb; have HGb := Lib.hid hgb; clear hOb hgb))
    have hbb : Below w.heap.size w wb := (BA.out.alloc BA.out.size _).grown HGb.out (by have := BA.out.size; simp; omega) (fun k e => by cases e; exact BA.out.size)
    have hoa : Ow w.heap.size wb va p := by
      have h := HOa.out.below (((Below.refl _ wa).alloc (Nat.le_refl _) (.cells #[] 3)).grown HGb.out (by simp) (fun k e => by cases e; exact Nat.le_refl _))
      exact h.mono (by omega)
    have hob : Ow w.heap.size wb vb q := HOb.out.mono BA.out.size
    obtain ⟨W0, hW0⟩ : ∃ W, W = wb.alloc (.cells #[.slice none 0 0, .slice none 0 0, .slice none 0 0, .slice none 0 0, .slice none 0 0] 58) := ⟨_, rfl⟩
    have hF := Blk.new wb 58 #[.slice none 0 0, .slice none 0 0, .slice none 0 0, .slice none 0 0, .slice none 0 0]
    have h0 : Hid (Ow w.heap.size W0 va p ∧ Ow w.heap.size W0 vb q) := by
      rw [hW0]
      exact Lib.hid ⟨hoa.below ((Below.refl _ wb).alloc (Nat.le_refl _) _), hob.below ((Below.refl _ wb).alloc (Nat.le_refl _) _)⟩
    have h1 : Below w.heap.size w W0 := by rw [hW0]; exact hbb.alloc hbb.size _
    rw [← hW0] at hF ⊢
    have hSf : w.heap.size ≤ wb.heap.size := hbb.size
    have H0 : Hid (∃ fs : Array Value, fs.size = 5 ∧ Blk W0 wb.heap.size 58 fs ∧ (0 < 0 → ∀ j, j < 5 → Ow w.heap.size W0 (fs.getD j undef) ((five p q k).getD j []))) := Lib.hid ⟨_, rfl, hF, fun h => by omega⟩
    generalize wb.heap.size = bf at *
    clear hF hW0 hbb hoa hob BA HOa HOb HGb HG1 HB1
    go_loopw [10] (fun i wr => ∃ r : Nat, r ≤ 2 ∧ i = .int .i64 r ∧ Hid (Ow w.heap.size wr va p ∧ Ow w.heap.size wr vb q) ∧ Hid (∃ fs : Array Value, fs.size = 5 ∧ Blk wr bf 58 fs ∧ (0 < r → ∀ j, j < 5 → Ow w.heap.size wr (fs.getD j undef) ((five p q k).getD j []))) ∧ Below w.heap.size w wr) (fun i _ => 2 - (intOf i).toNat)
    case atStart => exact ⟨0, by omega, rfl, h0, H0, h1⟩
    case round =>
      clear h0 H0 h1
      obtain ⟨r, hr, rfl, hab, hfs, hb⟩ := hrel
      obtain ⟨wo, hwo⟩ : ∃ W, W = wr := ⟨_, rfl⟩
      subst hwo
      have HBr := Lib.hid hb
      have VA : Hid (∀ b, va.ownBlock = some b → b < wo.heap.size) := Lib.hid (fun b h => (hab.out.1.lt b h).2)
      have VB : Hid (∀ b, vb.ownBlock = some b → b < wo.heap.size) := Lib.hid (fun b h => (hab.out.2.lt b h).2)
      have hsw := hb.size
      by_cases hlt : r < 2
      · have R := RSt.zero (rs := five p q k) (Blk.alloc (Blk.new wo 58 #[.slice none 0 0, .slice none 0 0, .slice none 0 0, .slice none 0 0, .slice none 0 0]) (.cells #[.slice none 0 0, .slice none 0 0, .slice none 0 0, .slice none 0 0, .slice none 0 0] 58)) rfl
        have hB1 : Below w.heap.size w ((wo.alloc (.cells #[.slice none 0 0, .slice none 0 0, .slice none 0 0, .slice none 0 0, .slice none 0 0] 58)).alloc (.cells #[.slice none 0 0, .slice none 0 0, .slice none 0 0, .slice none 0 0, .slice none 0 0] 58)) := (hb.alloc hb.size _).alloc (by have := hb.size; simp; omega) _
        have R := Lib.hid R
        have HB1 := Lib.hid hB1
        clear hb hB1
        go_wp2_with fail
        obtain ⟨W1, hW1⟩ : ∃ W, W = ((wo.alloc (.cells #[.slice none 0 0, .slice none 0 0, .slice none 0 0, .slice none 0 0, .slice none 0 0] 58)).alloc (.cells #[.slice none 0 0, .slice none 0 0, .slice none 0 0, .slice none 0 0, .slice none 0 0] 58)) := ⟨_, rfl⟩
        have hs1 : W1.heap.size = wo.heap.size + 2 := by rw [hW1]; simp
        have hw1 : Below wo.heap.size wo W1 := by rw [hW1]; exact ((Below.refl _ wo).alloc (Nat.le_refl _) _).alloc (by simp) _
        have hk1 : Blk W1 (wo.heap.size + 1) 58 #[.slice none 0 0, .slice none 0 0, .slice none 0 0, .slice none 0 0, .slice none 0 0] := by
          rw [hW1]
          have := Blk.new (wo.alloc (.cells #[.slice none 0 0, .slice none 0 0, .slice none 0 0, .slice none 0 0, .slice none 0 0] 58)) 58 #[.slice none 0 0, .slice none 0 0, .slice none 0 0, .slice none 0 0, .slice none 0 0]
          rwa [World.size_alloc] at this
        rw [← hW1] at R HB1 ⊢
        have HW1 := Lib.hid hw1
        have HK1 := Lib.hid hk1
        have HS1 := Lib.hid hs1
        have hl : wo.heap.size < W1.heap.size := by omega
        clear hW1 hw1 hk1 hs1
        have HR : Hid (∀ n xs W, RSt wo.heap.size W1 (five p q k) n xs W → Sl W (.slice a p.length ca) p ∧ Sl W (.slice b q.length cb) q) := Lib.hid (fun n xs W h => ⟨H1.out.below (h.read HB1.out hsw (Nat.le_refl _)), H2.out.below (h.read HB1.out hsw (Nat.le_refl _))⟩)
        have HL := Lib.hid hl
        clear hl
        refine (Mul_any _ _ p q _ (HR.out _ _ _ R.out).1 (HR.out _ _ _ R.out).2 hp hq).mono ?_
        rintro e w2 ⟨x0, rfl, O, b⟩
        obtain ⟨⟨u, hc⟩, hf⟩ := R.out.cell b 0 (by decide)
        obtain ⟨y0, z0, rfl, _⟩ := O.sl
        have R := Lib.hid (R.out.next HL.out (by decide) (show Ow _ _ _ ((five p q k).getD 0 []) from O) b)
        clear O b
        go_wp2_with fail
        clear hc hf
        refine (Comm_any _ _ p q _ (HR.out _ _ _ R.out).1 (HR.out _ _ _ R.out).2 hp hq).mono ?_
        rintro e w3 ⟨x1, rfl, O, b⟩
        obtain ⟨⟨u, hc⟩, hf⟩ := R.out.cell b 1 (by decide)
        obtain ⟨y1, z1, rfl, _⟩ := O.sl
        have R := Lib.hid (R.out.next HL.out (by decide) (show Ow _ _ _ ((five p q k).getD 1 []) from O) b)
        clear O b
        go_wp2_with fail
        clear hc hf
        refine (Inverse_any _ p _ (HR.out _ _ _ R.out).1 hp).mono ?_
        rintro e w4 ⟨x2, rfl, O, b⟩
        obtain ⟨⟨u, hc⟩, hf⟩ := R.out.cell b 2 (by decide)
        obtain ⟨y2, z2, rfl, _⟩ := O.sl
        have R := Lib.hid (R.out.next HL.out (by decide) (show Ow _ _ _ ((five p q k).getD 2 []) from O) b)
        clear O b
        go_wp2_with fail
        clear hc hf
        refine (Power_any _ p k _ (HR.out _ _ _ R.out).1 hp).mono ?_
        rintro e w5 ⟨x3, rfl, O, b⟩
        obtain ⟨⟨u, hc⟩, hf⟩ := R.out.cell b 3 (by decide)
        obtain ⟨y3, z3, rfl, _⟩ := O.sl
        have R := Lib.hid (R.out.next HL.out (by decide) (show Ow _ _ _ ((five p q k).getD 3 []) from O) b)
        clear O b
        go_wp2_with fail
        clear hc hf
        refine (Conj_any _ _ p q _ (HR.out _ _ _ R.out).1 (HR.out _ _ _ R.out).2 hp hq).mono ?_
        rintro e w6 ⟨x4, c4, rfl, O, b⟩
        obtain ⟨⟨u, hc⟩, hf⟩ := R.out.cell b 4 (by decide)
        obtain ⟨y4, z4, rfl, _⟩ := O.sl
        have R := Lib.hid (R.out.next HL.out (by decide) (show Ow _ _ _ ((five p q k).getD 4 []) from O) b)
        clear O b
        go_wp2_with fail
        clear hc hf
        refine (Cycles_any _ p _ (HR.out _ _ _ R.out).1 hp).mono ?_
        rintro e X ⟨cy, nc, rfl, hnc, L, b⟩
        obtain ⟨xs, U, xl, xz, xo, xu, xa, xt, u1, u2, L⟩ := RSt.fin (show RSt _ _ _ 5 _ _ from R.out) b L
        have XL := Lib.hid xl
        have XO := Lib.hid xo
        have XU := Lib.hid xu
        have XA := Lib.hid xa
        have XT := Lib.hid xt
        have L := Lib.hid L
        have XZ := Lib.hid xz
        have U1 := Lib.hid u1
        have U2 := Lib.hid u2
        have XK := Lib.hid (HK1.out.turns xt (by omega))
        clear R HR b xl xz xo xu xa xt u1 u2
        go_wp2
        go_loopw [14] (fun i wr => ∃ j : Nat, j ≤ 5 ∧ i = .int .i64 j ∧ Hid (∃ ks : Array Value, ks.size = 5 ∧ Blk wr (wo.heap.size + 1) 58 ks ∧ ∀ t, t < j → Ow X.heap.size wr (ks.getD t undef) ((five p q k).getD t [])) ∧ Hid (Turns (fun b => b = wo.heap.size + 1) X wr)) (fun i _ => 5 - (intOf i).toNat)
        case atStart => exact ⟨0, by omega, rfl, Lib.hid ⟨_, rfl, XK.out, fun t ht => by omega⟩, Lib.hid (Turns.refl _ _)⟩
        case round =>
          obtain ⟨j, hj, rfl, hks, hty⟩ := hrel
          obtain ⟨ks, kz, hkb, hko⟩ := hks.out
          have hXw : X.heap.size ≤ wr.heap.size := hty.out.size
          by_cases hj5 : j < 5
          · obtain ⟨z, hz⟩ : ∃ z, z = (five p q k).getD j [] := ⟨_, rfl⟩
            have hz6 : z.length ≤ 1000000 := by rw [hz]; exact five_le hp j
            have hoj := XO.out j hj5
            rw [← hz] at hoj
            have hne : ∀ b, (xs.getD j undef).ownBlock = some b → ¬ (b = wo.heap.size + 1) := fun b hb2 => by
              have := (hoj.lt b hb2).1
              have := HS1.out
              omega
            have hoy : Ow W1.heap.size wr (xs.getD j undef) z := hoj.turns hty.out hne
            have hcl : wr.cell? ⟨wo.heap.size, j, none⟩ = some (xs.getD j undef) := by
              rw [(XL.out.turns hty.out (by omega)).cell j]
              exact arr_get (by have := XZ.out; omega)
            obtain ⟨xa', xc', hxj⟩ := getD_form hoy
            rw [hxj] at hoy hcl
            have hlt1 : wo.heap.size < wr.heap.size := World.block_lt_of_cell? wr _ hcl
            have hcl2 : ∀ o, (wr.alloc o).cell? ⟨wo.heap.size, j, none⟩ = some (.slice xa' z.length xc') := fun o => ((Below.refl _ wr).alloc (Nat.le_refl _) o).cell (p := ⟨wo.heap.size, j, none⟩) hlt1 |>.trans hcl
            have hal : Below wr.heap.size wr (wr.alloc (.cells #[] 3)) := (Below.refl _ wr).alloc (Nat.le_refl _) _
            have HSL := Lib.hid (hoy.sl.below hal)
            have HKB := Lib.hid hkb
            have HKO := Lib.hid hko
            have HZ := Lib.hid hz
            have HXJ := Lib.hid hxj
            have HOY := Lib.hid hoy
            have KZ := Lib.hid kz
            clear hkb hko hz hxj hoy hoj hne kz hal hks
            go_wp2_with (at_builtin; refine wpList_append_copy rfl (.tmp 73) (.tmp 76) rfl wr.heap.size rfl (Blk.new wr 3 #[]) _ z rfl HSL.out hz6 ?_; intro v' wz hOv hgz; obtain ⟨va', vc', rfl⟩ := getD_form hOv; have HOV := Lib.hid hOv; have HGZ := Lib.hid hgz; have hkz : Blk wz (wo.heap.size + 1) 58 ks := (hgz.block _ (by have := HKB.out.lt; simp; omega) (by have := HKB.out.lt; simp; omega)).trans (HKB.out.alloc _); obtain ⟨uk, huk⟩ : ∃ u, wz.cell? ⟨wo.heap.size + 1, j, none⟩ = some u := ⟨_, by rw [hkz.cell j]; exact arr_get (by have := KZ.out; omega)⟩; have hfk := hkz.free j; clear hOv hgz)
            have hbz : Below wr.heap.size wr wz := ((Below.refl _ wr).alloc (Nat.le_refl _) (.cells #[] 3)).grown HGZ.out (by simp) (fun k e => by cases e; exact Nat.le_refl _)
            have hkw : wo.heap.size + 1 < wr.heap.size := HKB.out.lt
            have htv : Turns (fun b => b = wo.heap.size + 1) wr (wz.setCell ⟨wo.heap.size + 1, j, none⟩ (.slice va' z.length vc')) := (Turns.of_below hbz).setCell _ _ _ rfl
            have hkv := hkz.set j (.slice va' z.length vc')
            have hov : Ow X.heap.size (wz.setCell ⟨wo.heap.size + 1, j, none⟩ (.slice va' z.length vc')) (.slice va' z.length vc') z :=
              (HOV.out.mono hXw).turns (priv := fun b => b = wo.heap.size + 1) ((Turns.refl _ wz).setCell _ _ _ rfl) (fun b e h => by have := (HOV.out.lt b e).1; omega)
            generalize wz.setCell ⟨wo.heap.size + 1, j, none⟩ (.slice va' z.length vc') = WV at *
            have hTX : Turns (fun b => b = wo.heap.size + 1) X WV := hty.out.trans htv
            have hnew : ∃ ks : Array Value, ks.size = 5 ∧ Blk WV (wo.heap.size + 1) 58 ks ∧ ∀ t, t < j + 1 → Ow X.heap.size WV (ks.getD t undef) ((five p q k).getD t []) := by
              refine ⟨_, by simpa using KZ.out, hkv, fun t ht => ?_⟩
              rw [arr_set (by have := KZ.out; omega)]
              by_cases e : t = j
              · rw [if_pos e, e, ← HZ.out]; exact hov
              · rw [if_neg e]
                exact (HKO.out t (by omega)).turns htv (fun b hb2 h => by have := ((HKO.out t (by omega)).lt b hb2).1; have := HS1.out; have := U1.out; have := U2.out; omega)
            have hxs : Sl WV (.slice xa' z.length xc') z := (HOY.out.turns htv (fun b hb2 h => by have := (HOY.out.lt b hb2).1; have := HS1.out; omega)).sl
            have hcx : WV.cell? ⟨wo.heap.size, j, none⟩ = some (.slice xa' z.length xc') := by
              rw [((XL.out.turns hty.out (by omega)).turns htv (by omega)).cell j, ← (XL.out.turns hty.out (by omega)).cell j]
              exact hcl
            have HNew := Lib.hid hnew
            have HXS := Lib.hid hxs
            have HTX := Lib.hid hTX
            clear hbz htv hkv hov hTX hnew hxs hcl hcl2 huk hfk hkz HOV HGZ HSL hty HKB HKO HOY
            have hgen : ∀ w3, Below WV.heap.size WV w3 → Hid (∃ ks : Array Value, ks.size = 5 ∧ Blk w3 (wo.heap.size + 1) 58 ks ∧ ∀ t, t < j + 1 → Ow X.heap.size w3 (ks.getD t undef) ((five p q k).getD t [])) ∧ Hid (Turns (fun b => b = wo.heap.size + 1) X w3) := fun w3 h3 => by
              obtain ⟨ks2, n1, n2, n3⟩ := HNew.out
              exact ⟨Lib.hid ⟨ks2, n1, n2.below h3, fun t ht => (n3 t ht).below h3⟩, Lib.hid (HTX.out.trans (.of_below h3))⟩
            have HGen := Lib.hid hgen
            clear hgen
            by_cases h0 : 0 < r
            · obtain ⟨fs, f1, f2, f3⟩ := hfs.out
              have f3 := f3 h0
              have fj := f3 j hj5
              rw [← HZ.out] at fj
              have hfne : ∀ b, (fs.getD j undef).ownBlock = some b → b < wo.heap.size := fun b hb2 => (fj.lt b hb2).2
              have hbf : bf < wo.heap.size := f2.lt
              have t1 : Turns (fun b => b = wo.heap.size + 1 ∨ b = wo.heap.size) wo WV :=
                ((Turns.of_below HW1.out).trans (XT.out.mono (fun _ h => .inr h))).trans (HTX.out.mono (fun _ h => .inl h))
              have hfw := fj.turns t1 (fun b hb2 h => by have := hfne b hb2; omega)
              have hcf : WV.cell? ⟨bf, j, none⟩ = some (fs.getD j undef) := by
                rw [(f2.turns t1 (by omega)).cell j]
                exact arr_get (by omega)
              obtain ⟨fa, fc, hff⟩ := getD_form hfw
              rw [hff] at hfw hcf
              have HFW := Lib.hid hfw.sl
              have k1 := cell_regrown hcx
              have k2 := cell_regrown hcf
              have cV : ∀ d os, Calls Try.prog 42 #[.slice xa' z.length xc', .slice fa z.length fc] (grow (redrawn WV d) os) fun e w'' => e = .returned (.bool true) ∧ ∃ p : Regrown, w'' = grow (redrawn WV p.d) p.os := fun d os => Calls.regrown_of ((same_any _ _ z z _ (HXS.out.below (below_regrown WV d os)) (HFW.out.below (below_regrown WV d os)) hz6 hz6).mono fun _ _ ⟨he, n, hn⟩ => ⟨by rw [he, decide_eq_true rfl], by rw [hn]; exact below_drewN' (Below.refl _ _) n⟩)
              have hd : decide ((0 : Int) < (r : Int)) = true := by simp; omega
              have hd2 : decide (0 < r) = true := decide_eq_true h0
              clear h0 f1 f2 f3 fj hfne hbf t1 hfw hff hcx hcf
              refine wp_region_quiet_below (by kernel_rfl) (by kernel_rfl) ?_
              repeat (go_big_quiet_step (exact cV _ _))
              refine wpQuiet_nil ?_
              intro _ hw'
              obtain ⟨⟨dq, osq⟩, hw''⟩ := hw'
              subst hw''
              obtain ⟨g1, g2⟩ := HGen.out _ (below_regrown WV dq osq)
              clear k1 k2 cV
              generalize grow (redrawn WV dq) osq = w7 at *
              go_wp2
              go_roundw
              case rel => exact ⟨j + 1, by omega, by go_num, g1, g2⟩
              case measure => simp [intOf]; omega
            · have hd : decide ((0 : Int) < (r : Int)) = false := by simp; omega
              have hd2 : decide (0 < r) = false := decide_eq_false h0
              clear h0 hcx
              refine wp_region_quiet_below (by kernel_rfl) (by kernel_rfl) ?_
              repeat (go_big_quiet_step (fail))
              refine wpQuiet_nil ?_
              intro _ hw'
              obtain ⟨⟨dq, osq⟩, hw''⟩ := hw'
              subst hw''
              obtain ⟨g1, g2⟩ := HGen.out _ (below_regrown WV dq osq)
              generalize grow (redrawn WV dq) osq = w7 at *
              go_wp2
              go_roundw
              case rel => exact ⟨j + 1, by omega, by go_num, g1, g2⟩
              case measure => simp [intOf]; omega
          · obtain rfl : j = 5 := by omega
            obtain ⟨fs, f1, f2, f3⟩ := hfs.out
            have hbf : bf < wo.heap.size := f2.lt
            have t1 : Turns (fun b => b = wo.heap.size + 1 ∨ b = wo.heap.size) wo wr :=
              ((Turns.of_below HW1.out).trans (XT.out.mono (fun _ h => .inr h))).trans (hty.out.mono (fun _ h => .inl h))
            have hfw : Blk wr bf 58 fs := f2.turns t1 (by omega)
            have hone := all_slices kz hko
            have hi1 : (Try.prog.info? 58).map (·.size) = some ks.size := by rw [kz]; exact infoFive
            have t2 : Turns (fun b => b = bf) wr (wr.setRow bf ks) := (Turns.refl _ _).setRow _ _ rfl
            have u1 := U1.out
            have u2 := U2.out
            have s1 := HS1.out
            have L9 : Lw U X.heap.size (wr.setRow bf ks) cy nc := (L.out.turns hty.out (fun b hb2 h => by omega)).turns t2 (fun b hb2 h => by omega)
            have HL9 := Lib.hid L9
            have hk9 := hkb.turns t2 (by omega)
            have hf9 : Blk (wr.setRow bf ks) bf 58 ks := hfw.setRow ks
            have HK9 := Lib.hid hk9
            have HF9 := Lib.hid hf9
            have HT1 := Lib.hid t1
            have HT2 := Lib.hid t2
            have HKO := Lib.hid hko
            have KZ := Lib.hid kz
            have HF2 := Lib.hid f2
            have HF1 := Lib.hid f1
            have hsz9 : (wr.setRow bf ks).heap.size = wr.heap.size := by simp
            have hks' : ks.size = 5 := kz
            clear L9 hk9 hf9 t1 t2 hko hks f2 f3
            go_wp2_with (first | (refine wpList_load_row rfl 58 _ rfl (wo.heap.size + 1) rfl 58 ks (0, 0) _ hkb Try.underlying58 rfl hi1 ?_) | (refine wpList_store_row rfl 58 _ _ rfl bf ks rfl rfl 58 fs hfw hi1 (by rw [HF1.out, hks']) hone ?_) | (go_at_call 48; refine (spoillists_any U X.heap.size cy nc _ HL9.out hnc (by omega) (by omega)).mono ?_; rintro e wX ⟨rfl, hTW⟩))
            -- what stands behind SpoilLists
            have tall : Turns (fun b => b = wo.heap.size + 1 ∨ b = wo.heap.size ∨ b = bf ∨ U ≤ b) wo wX :=
              ((HT1.out.mono (fun b h => by rcases h with h | h; exact .inl h; exact .inr (.inl h))).trans (HT2.out.mono (fun b h => .inr (.inr (.inl h))))).trans (hTW.mono (fun b h => .inr (.inr (.inr h.1))))
            have tx : Turns (fun b => b = wo.heap.size + 1 ∨ b = bf ∨ (U ≤ b ∧ b < X.heap.size)) X wX :=
              ((hty.out.mono (fun b h => .inl h)).trans (HT2.out.mono (fun b h => .inr (.inl h)))).trans (hTW.mono (fun b h => .inr (.inr h)))
            have xo10 : ∀ t, t < 5 → Ow W1.heap.size wX (xs.getD t undef) ((five p q k).getD t []) := fun t ht => (XO.out t ht).turns tx (fun b hb2 h => by
              have h1 := ((XO.out t ht).lt b hb2).1
              have h2 := XU.out t ht b hb2
              omega)
            have ko10 : ∀ t, t < 5 → Ow X.heap.size wX (ks.getD t undef) ((five p q k).getD t []) := fun t ht => (HKO.out t ht).turns ((HT2.out.mono (q := fun b => b = bf ∨ (U ≤ b ∧ b < X.heap.size)) (fun b h => .inl h)).trans (hTW.mono (fun b h => .inr h))) (fun b hb2 h => by
              have h1 := ((HKO.out t ht).lt b hb2).1
              omega)
            have xl10 : Blk wX wo.heap.size 58 xs := XL.out.turns tx (by omega)
            have kl10 : Blk wX (wo.heap.size + 1) 58 ks := HK9.out.turns hTW (by omega)
            have fl10 : Blk wX bf 58 ks := HF9.out.turns hTW (by omega)
            have pa10 : Ow w.heap.size wX va p := hab.out.1.turns tall (fun b hb2 h => by
              have h1 := (hab.out.1.lt b hb2).2
              have h2 : b ≠ bf := fun e => hab.out.1.ne_arr HF2.out (by rw [hb2, e])
              omega)
            have pb10 : Ow w.heap.size wX vb q := hab.out.2.turns tall (fun b hb2 h => by
              have h1 := (hab.out.2.lt b hb2).2
              have h2 : b ≠ bf := fun e => hab.out.2.ne_arr HF2.out (by rw [hb2, e])
              omega)
            have bw10 : Below w.heap.size w wX := below_turns HBr.out tall (fun b hb2 h => by omega) (Nat.le_refl _)
            have XO := Lib.hid xo10
            have KO := Lib.hid ko10
            have XL := Lib.hid xl10
            have KL := Lib.hid kl10
            have FL := Lib.hid fl10
            have PA := Lib.hid pa10
            have PB := Lib.hid pb10
            have BW := Lib.hid bw10
            have hXX : X.heap.size ≤ wX.heap.size := tx.size
            have hw1X : W1.heap.size ≤ wX.heap.size := by omega
            clear tall tx xo10 ko10 xl10 kl10 fl10 pa10 pb10 bw10 hTW HF9 HK9 HL9 HT1 HT2 HKO hty hkb hfw hone hi1 f1 hfs hab XT XK L HF2 HF1 hsz9
            go_loopw [15] (fun i wr => ∃ j : Nat, j ≤ 5 ∧ i = .int .i64 j ∧ Hid (Turns (fun b => ∃ t, t < j ∧ (xs.getD t undef).ownBlock = some b) wX wr)) (fun i _ => 5 - (intOf i).toNat)
            case atStart => exact ⟨0, by omega, rfl, Lib.hid (Turns.refl _ _)⟩
            case round =>
              obtain ⟨j, hj, rfl, ht⟩ := hrel
              have hXr : wX.heap.size ≤ wr.heap.size := ht.out.size
              by_cases hj5 : j < 5
              · obtain ⟨z, hz⟩ : ∃ z, z = (five p q k).getD j [] := ⟨_, rfl⟩
                have hz6 : z.length ≤ 1000000 := by rw [hz]; exact five_le hp j
                have hx := XO.out j hj5
                have hk := KO.out j hj5
                rw [← hz] at hx hk
                have hxr : Ow W1.heap.size wr (xs.getD j undef) z := hx.turns ht.out (fun b hb2 ⟨t, ht1, ht2⟩ => XA.out t j ht1 hj5 b ht2 hb2)
                have hkr : Ow X.heap.size wr (ks.getD j undef) z := hk.turns ht.out (fun b hb2 ⟨t, ht1, ht2⟩ => by
                  have := (hk.lt b hb2).1
                  have := XU.out t (by omega) b ht2
                  omega)
                have hcx : wr.cell? ⟨wo.heap.size, j, none⟩ = some (xs.getD j undef) := by
                  rw [(XL.out.turns ht.out (fun ⟨t, ht1, ht2⟩ => by have := ((XO.out t (by omega)).lt _ ht2).1; omega)).cell j]
                  exact arr_get (by have := XZ.out; omega)
                have hck : wr.cell? ⟨wo.heap.size + 1, j, none⟩ = some (ks.getD j undef) := by
                  rw [(KL.out.turns ht.out (fun ⟨t, ht1, ht2⟩ => by have := ((XO.out t (by omega)).lt _ ht2).1; omega)).cell j]
                  exact arr_get (by have := KZ.out; omega)
                obtain ⟨xa', xc', hxj⟩ := getD_form hxr
                obtain ⟨ka', kc', hkj⟩ := getD_form hkr
                have hob : ∀ b, (Value.slice xa' z.length xc').ownBlock = some b → (xs.getD j undef).ownBlock = some b := fun b h => by rw [hxj]; exact h
                rw [hxj] at hxr hcx
                rw [hkj] at hkr hck
                have HX := Lib.hid hxr
                have HK := Lib.hid hkr
                have HOB := Lib.hid hob
                have k1 := cell_regrown hcx
                have k2 := cell_regrown hck
                have hxlt : wo.heap.size < wr.heap.size := World.block_lt_of_cell? wr _ hcx
                have cV : ∀ d os, Calls Try.prog 42 #[.slice xa' z.length xc', .slice ka' z.length kc'] (grow (redrawn wr d) os) fun e w'' => e = .returned (.bool true) ∧ ∃ p : Regrown, w'' = grow (redrawn wr p.d) p.os := fun d os => Calls.regrown_of ((same_any _ _ z z _ (HX.out.sl.below (below_regrown wr d os)) (HK.out.sl.below (below_regrown wr d os)) hz6 hz6).mono fun _ _ ⟨he, n, hn⟩ => ⟨by rw [he, decide_eq_true rfl], by rw [hn]; exact below_drewN' (Below.refl _ _) n⟩)
                have HCX := Lib.hid hcx
                clear hz hx hk hxr hkr hck hxj hkj hob hcx
                go_wp2
                refine wp_region_quiet_below (by kernel_rfl) (by kernel_rfl) ?_
                repeat (go_big_quiet_step (exact cV _ _))
                refine wpQuiet_nil ?_
                intro _ hw'
                obtain ⟨⟨dq, osq⟩, hw''⟩ := hw'
                subst hw''
                have hb3 := below_regrown wr dq osq
                clear k1 k2 cV
                generalize grow (redrawn wr dq) osq = w7 at *
                have hx7 := Lib.hid (HX.out.below hb3)
                have hc7 : w7.cell? ⟨wo.heap.size, j, none⟩ = some (.slice xa' z.length xc') := (hb3.cell (p := ⟨wo.heap.size, j, none⟩) hxlt).trans HCX.out
                have hrw := Lib.hid (Rw.of_ow hx7.out)
                have h7s : wr.heap.size ≤ w7.heap.size := hb3.size
                have HB3 := Lib.hid hb3
                clear hb3
                go_wp2_with (go_at_call 49; refine (spoil_any W1.heap.size w7.heap.size _ z.length _ hrw.out hz6 (by omega)).mono ?_; rintro e w8 ⟨rfl, k8, t8⟩)
                have hn : Turns (fun b => ∃ t, t < j + 1 ∧ (xs.getD t undef).ownBlock = some b) wX w8 :=
                  ((ht.out.mono (fun b ⟨t, h1, h2⟩ => ⟨t, by omega, h2⟩)).trans (.of_below HB3.out)).trans (t8.mono (fun b h => ⟨j, by omega, HOB.out b h⟩))
                have HN := Lib.hid hn
                clear hn k8 t8 hc7
                go_roundw
                case rel => exact ⟨j + 1, by omega, by go_num, HN⟩
                case measure => simp [intOf]; omega
              · obtain rfl : j = 5 := by omega
                have hpv : ∀ {B : Nat} {v : Value} {zs : List Int}, Ow B wX v zs → (∀ b, v.ownBlock = some b → b < W1.heap.size ∨ U ≤ b) → Ow B wr v zs := fun {B v zs} h hb => h.turns ht.out (fun b hb2 ⟨t, ht1, ht2⟩ => by
                  have h1 := ((XO.out t ht1).lt b ht2).1
                  have h2 := XU.out t ht1 b ht2
                  have h3 := hb b hb2
                  omega)
                have pa := PA.out.turns ht.out (fun b hb2 ⟨t, ht1, ht2⟩ => by
                  have h1 := ((XO.out t ht1).lt b ht2).1
                  have h2 := VA.out b hb2
                  omega)
                have pb := PB.out.turns ht.out (fun b hb2 ⟨t, ht1, ht2⟩ => by
                  have h1 := ((XO.out t ht1).lt b ht2).1
                  have h2 := VB.out b hb2
                  omega)
                have hko : ∀ t, t < 5 → Ow w.heap.size wr (ks.getD t undef) ((five p q k).getD t []) := fun t ht3 => ((KO.out t ht3).turns ht.out (fun b hb2 ⟨t', ht1, ht2⟩ => by
                  have h1 := ((KO.out t ht3).lt b hb2).1
                  have h2 := XU.out t' ht1 b ht2
                  omega)).mono (by omega)
                have hfl : Blk wr bf 58 ks := FL.out.turns ht.out (fun ⟨t, ht1, ht2⟩ => by
                  have h1 := ((XO.out t ht1).lt _ ht2).1
                  omega)
                have hbw : Below w.heap.size w wr := below_turns BW.out ht.out (fun b hb2 ⟨t, ht1, ht2⟩ => by
                  have h1 := ((XO.out t ht1).lt _ ht2).1
                  omega) (Nat.le_refl _)
                have PA := Lib.hid pa
                have PB := Lib.hid pb
                have KO := Lib.hid hko
                have FL := Lib.hid hfl
                have BW := Lib.hid hbw
                clear pa pb hko hfl hbw hpv
                go_wp2_with fail
                refine (same_any _ _ p p _ (H1.out.below BW.out) PA.out.sl hp hp).mono ?_
                rintro e w9 ⟨rfl, n9, rfl⟩
                rw [decide_eq_true rfl]
                have hd9 := below_drewN' (Below.refl wr.heap.size wr) n9
                go_wp2_with fail
                refine (same_any _ _ q q _ (H2.out.below (below_drewN' BW.out n9)) (PB.out.below hd9).sl hq hq).mono ?_
                rintro e w10 ⟨rfl, n10, rfl⟩
                rw [decide_eq_true rfl]
                go_wp2
                go_roundw
                case rel =>
                  have hd := below_drewN' (Below.refl wr.heap.size wr) (n9 + n10)
                  exact ⟨r + 1, by omega, by go_num, Lib.hid ⟨PA.out.below hd, PB.out.below hd⟩, Lib.hid ⟨ks, KZ.out, FL.out.below hd, fun _ t ht3 => (KO.out t ht3).below hd⟩, below_drewN' BW.out (n9 + n10)⟩
                case measure => simp [intOf]; omega
      · have hlt' : 2 ≤ r := by omega
        go_wp2_with fail
        refine (alive_any _).mono ?_
        rintro e w2 ⟨rfl, b2⟩
        have B2 := Lib.hid (HBr.out.trans (b2.mono hsw))
        clear b2
        go_wp2
        go_ret
        exact ⟨rfl, B2.out⟩
  · have HB := Lib.hid (short_two_no (a := a) (b := b) (c := ca) (d := cb) hsh)
    clear hsh
    go_enter Try.func12, Try.ntmps12
    go_wp2_with fail
    refine (short_any _ _ _ HS.out (by simp)).mono ?_
    rintro e w1 ⟨rfl, rfl⟩
    rw [HB.out]
    go_wp2_with fail
    refine (alive_any _).mono ?_
    rintro e w2 ⟨rfl, b2⟩
    have B2 := Lib.hid (B0.out.trans (b2.mono B0.out.size))
    clear b2
    go_wp2
    go_ret
    exact ⟨rfl, B2.out⟩
end Go.Proofs.Ytcnkegcogepimaa
