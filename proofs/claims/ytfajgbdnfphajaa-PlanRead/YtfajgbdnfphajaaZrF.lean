/- The document's Flaws. -/
import Derived.Test.YtfajgbdnfphajaaZpG
import Derived.Test.YtfajgbdnfphajaaSDoc
import Derived.Test.YtfajgbdnfphajaaRRef3
namespace Go.Proofs.Ytfajgbdnfphajaa.S
open Go.RowKit Go.Shelf
attribute [local irreducible] wpQuiet
/-- What stands while flaws are told. -/
structure Fs (w : World) (P : Pb) (wv fv rv : Value) (W : World) (v : Value) (L : List Fl) : Prop where
  own : W.ownsRow (w.heap.size + 1) 60 3 v L.length (cellsF L)
  be : Below w.heap.size w W
  pb : PbB W w.heap.size P wv fv rv
section
variable {w W W' : World} {P : Pb} {wv fv rv v v' : Value} {L L' : List Fl}
theorem Fs.over (h : Fs w P wv fv rv W v L) (hb : Below W.heap.size W W') : Fs w P wv fv rv W' v L :=
  ⟨own_lowB h.own hb, h.be.trans (hb.mono h.be.size), h.pb.below hb⟩
theorem Fs.dr (h : Fs w P wv fv rv W v L) (k : Nat) : Fs w P wv fv rv (W.drewN k) v L := h.over (below_drewS (Below.refl _ W) k)
theorem Fs.sz (h : Fs w P wv fv rv W v L) : w.heap.size + 1 ≤ W.heap.size := (Array.getElem?_eq_some_iff.1 h.pb).1
theorem Fs.app (h : Fs w P wv fv rv W v L) (ho : W'.ownsRow (w.heap.size + 1) 60 3 v' L'.length (cellsF L')) (hb : Below (w.heap.size + 1) W W') : Fs w P wv fv rv W' v' L' :=
  ⟨ho, h.be.trans (hb.mono (Nat.le_succ _)), (hb.block _ (Nat.lt_succ_self _)).trans h.pb⟩
theorem Fs.shp (h : Fs w P wv fv rv W v L) : ∃ oa n cap, v = .slice oa n cap := by obtain ⟨a, c, e⟩ := own_shp h.own; exact ⟨a, _, c, e⟩
end
theorem Fs.start (w : World) (P : Pb) (wv fv rv : Value) : Fs w P wv fv rv (w.alloc (.cells #[.int .i64 P.users, wv, fv, rv] 27)) (.slice none 0 0) [] :=
  ⟨World.ownsRow_nil _ _ _ _, (Below.refl _ w).alloc (Nat.le_refl _) _, heap_new w _⟩
set_option maxRecDepth 100000 in
set_option maxHeartbeats 8000000 in
theorem rFlawsF (P : Pb) (wv fv rv : Value) (L : List Int) (lv : Value) (w : World) (h : PbV w P wv fv rv) (hL : RowI w lv L) (_ : L.length ≤ 1000) (hk : Pok P) (hC : chkN P = 0) :
    Calls Try.prog 21 #[pbV P wv fv rv, lv] w fun e w' => ∃ v, e = .returned v ∧ Hid (w'.ownsRow w.heap.size 60 3 v (flwL P L).length (cellsF (flwL P L))) ∧ Hid (Below w.heap.size w w') := by
  obtain ⟨g12, g0, g64, g32, gF, gW, gR⟩ := chkN_zero hC
  obtain ⟨gl, gx⟩ := fixB_of gF g64
  have hs := h.shape
  have hst := hide' (Fs.start w P wv fv rv)
  have K4 : Hid (∀ V, Below w.heap.size w V → Calls Try.prog 34 #[rv, lv] V fun e w' => ∃ v', e = .returned v' ∧ w'.ownsRow V.heap.size 3 1 v' (broken P.rules L).length (cellsI (ints (broken P.rules L))) ∧ Below V.heap.size V w') := fun V hV =>
    rBroken P.rules rv lv L V (h.rules.below hV (Nat.le_refl _)) (hL.below hV (Nat.le_refl _)) hk.r hk.s
  have hbl := hide' (Nat.le_trans (broken_lenZ P.rules L) hk.r)
  have hbw := hide' hk.b
  have h' := hide' h
  have hgx := hide' gx
  have hgl : Hid (P.fixed.length = P.who.length) := gl
  obtain ⟨ow, cw, of, cf, or, cr, rfl, rfl, rfl⟩ := hs
  obtain ⟨ol, cl, rfl, _, hcl⟩ := hL
  have hcl' := hide' hcl
  clear hcl h hC gF gW gR gx gl hk
  unfold pbV
  by_cases hl : L.length = P.who.length
  case neg =>
    have hE : flwL P L = [] ++ [⟨1, 0, 0⟩] := by unfold flwL; rw [if_neg hl]; rfl
    rw [hE]
    have hl' : ((L.length : Int) != (P.who.length : Int)) = true := by rw [bne_iff_ne]; omega
    have hl2 : (L.length : Int) ≠ (P.who.length : Int) := by omega
    have q1 := hst.out.pb.c1
    clear K4 hcl' hl hE
    go_enter Try.func21, Try.ntmps21
    go_upto_region 3 with fail
    clear q1
    generalize w.alloc (.cells #[.int .i64 P.users, .slice ow P.who.length cw, .slice of P.fixed.length cf, .slice or P.rules.length cr] 27) = w0 at *
    go_wp2_with (at_builtin; refine app_flawL rfl (.tmp 15) (.tmp 17) (w.heap.size + 1) w0 (.slice none 0 0) [] ⟨1, 0, 0⟩ rfl rfl rfl hst.out.own hst.out.sz (Nat.zero_le _) ?_; intro v2 w2 hO2 hb2 _; have hF2 := hide' (hst.out.app hO2 hb2); clear hO2 hb2)
    obtain ⟨o2, n2, c2, rfl⟩ := hF2.out.shp
    go_wp2
    go_ret
    exact ⟨_, rfl, owns_lowS hF2.out.own (Nat.le_succ _), hF2.out.be⟩
  have hE : flwL P L = stF P L P.who.length ++ ruF (broken P.rules L) := by unfold flwL; rw [if_pos hl, hl]
  have hE' := hide' hE
  rw [hl] at K4 ⊢
  have hgt : Hid (∀ j, j < P.who.length → ∃ (z : Nat) (y x : Int), P.who[j]? = some z ∧ P.fixed[j]? = some y ∧ L[j]? = some x ∧ z < 18446744073709551616 ∧ (y = -1 ∨ (0 ≤ y ∧ y < 64))) := fun j hj => by
    have e1 := List.getElem?_eq_getElem (show j < P.who.length from hj)
    have e2 := List.getElem?_eq_getElem (show j < P.fixed.length by have := hgl.out; omega)
    have e3 := List.getElem?_eq_getElem (show j < L.length by omega)
    exact ⟨_, _, _, e1, e2, e3, hbw.out _ (List.mem_of_getElem? e1), hgx.out _ (List.mem_of_getElem? e2)⟩
  have q1 := hst.out.pb.c1
  clear hl hE
  go_enter Try.func21, Try.ntmps21
  go_upto_block 0 with fail
  clear q1
  generalize w.alloc (.cells #[.int .i64 P.users, .slice ow P.who.length cw, .slice of P.fixed.length cf, .slice or P.rules.length cr] 27) = w0 at *
  go_cut [5, 6] from 19 to 95 (fun v _ wx => Hid (Fs w P (.slice ow P.who.length cw) (.slice of P.fixed.length cf) (.slice or P.rules.length cr) wx v (stF P L P.who.length)))
  case first =>
    as_aux_lemma =>
    go_wp2_with fail
    go_loopw [5, 6] (fun v p wr => ∃ j : Nat, j ≤ P.who.length ∧ p = .int .i64 (j : Int) ∧ Hid (Fs w P (.slice ow P.who.length cw) (.slice of P.fixed.length cf) (.slice or P.rules.length cr) wr v (stF P L j))) (fun _ p _ => ((P.who.length : Int) - intOf p).toNat)
    case atStart => exact ⟨0, Nat.zero_le _, rfl, hst⟩
    case round =>
      clear hst
      obtain ⟨j, hj, rfl, hF⟩ := hrel
      obtain ⟨ov, nv, cv, rfl⟩ := hF.out.shp
      by_cases hlt : j < P.who.length
      · have hlt' : (j : Int) < (P.who.length : Int) := by omega
        have hltf : (j : Int) < (P.fixed.length : Int) := by have := hgl.out; omega
        obtain ⟨z, y, x, hz, hy, hx, hzb, hyb⟩ := hgt.out j hlt
        obtain ⟨g1, p1, rfl, a1⟩ := hcl'.out j x hx
        obtain ⟨ow', cw', ew, _, hcw⟩ := h'.out.who
        obtain ⟨of', cf', ef, _, hcf⟩ := h'.out.fixed
        obtain ⟨g2, p2, r2, a2⟩ := hcw j z hz
        obtain ⟨g3, p3, r3, a3⟩ := hcf j y hy
        cases ew
        cases ef
        subst r2
        subst r3
        have a1' := M.cell_over a1 hF.out.be
        have a2' := M.cell_over a2 hF.out.be
        have a3' := M.cell_over a3 hF.out.be
        have q0 := hF.out.pb.c0
        have q1 := hF.out.pb.c1
        have q2 := hF.out.pb.c2
        have hln : (stF P L j).length ≤ 1000000 := by have := stF_len P L j; omega
        have hsn := hide' (stF_succ P L j)
        have hno := hide' (fun h => fl1_no (P := P) hx h)
        have hye := hide' (fun h => fl1_yes (P := P) hx h)
        have hz' := hide' hz
        have hy' := hide' hy
        clear hz hy hx a1 a2 a3 hcw hcf h' hgt hbw hgx hcl' K4
        have hEn : Hid (flK P j x = 0 → stF P L (j + 1) = stF P L j) := fun h0 => by rw [hsn.out, hno.out h0, List.append_nil]
        have hEy : Hid (∀ kk, kk ≠ 0 → flK P j x = kk → stF P L (j + 1) = stF P L j ++ [⟨kk, j, 0⟩]) := fun kk h0 h1 => by rw [hsn.out, hye.out (by omega), h1]
        clear hsn hno hye
        generalize stF P L j = Lj at *
        by_cases hxu : 0 ≤ x ∧ x < P.users
        case neg =>
          have hE2 := hide' (hEy.out 2 (by decide) (flK_a (isU_no hxu)))
          rcases (show x < 0 ∨ (0 ≤ x ∧ P.users ≤ x) by omega) with hq | ⟨hq, hq2⟩
          · as_aux_lemma =>
            clear hxu hEn hEy
            go_wp2
            go_quiet (fail)
            go_wp2_with (at_builtin; refine app_flawL rfl (.tmp 40) (.tmp 43) (w.heap.size + 1) _ (.slice ov nv cv) Lj ⟨2, j, 0⟩ rfl rfl rfl (hF.out.dr _).own (hF.out.dr _).sz hln ?_; intro v2 w2 hO2 hb2 _; have hF2 := hide' ((hF.out.dr _).app hO2 hb2); clear hO2 hb2)
            rw [← hE2.out] at hF2
            exact ⟨⟨j + 1, by omega, by go_num, hF2⟩, by simp [intOf]; omega⟩
          · as_aux_lemma =>
            have hqd : decide (x < 0) = false := decide_eq_false (by omega)
            clear hxu hEn hEy
            go_wp2
            go_quiet (fail)
            go_wp2_with (at_builtin; refine app_flawL rfl (.tmp 40) (.tmp 43) (w.heap.size + 1) _ (.slice ov nv cv) Lj ⟨2, j, 0⟩ rfl rfl rfl (hF.out.dr _).own (hF.out.dr _).sz hln ?_; intro v2 w2 hO2 hb2 _; have hF2 := hide' ((hF.out.dr _).app hO2 hb2); clear hO2 hb2)
            rw [← hE2.out] at hF2
            exact ⟨⟨j + 1, by omega, by go_num, hF2⟩, by simp [intOf]; omega⟩
        case pos =>
          have hu := (isU_iff P x).2 hxu
          have hxd : decide (x < 0) = false := decide_eq_false (by omega)
          have hxd2 : decide (P.users ≤ x) = false := decide_eq_false (by omega)
          have hx0 : ¬ x < 0 := by omega
          have hxU : ¬ P.users ≤ x := by omega
          by_cases h1 : y = -1
          · subst h1
            have hD := hide' (flK_d hu hy'.out hz'.out)
            obtain ⟨n, rfl⟩ : ∃ n : Nat, x = (n : Int) := ⟨x.toNat, by omega⟩
            have hn64 : n < 64 := by omega
            cases hbit : z.testBit n with
            | true =>
              as_aux_lemma =>
              have hsb := M.shr_bitT hzb hbit
              have hE2 := hide' (hEn.out (by rw [hD.out, Int.toNat_natCast, hbit]; rfl))
              clear hu hxu hz' hy' hbit hD hEn hEy hyb
              go_wp2
              go_quiet (fail)
              go_wp2
              go_quiet (fail)
              go_wp2
              go_quiet (fail)
              go_wp2
              exact ⟨⟨j + 1, by omega, by go_num, by rw [hE2.out]; exact hF.out.dr _⟩, by simp [intOf]; omega⟩
            | false =>
              as_aux_lemma =>
              have hsb := M.shr_bitF hzb hbit
              have hE2 := hide' (hEy.out 4 (by decide) (by rw [hD.out, Int.toNat_natCast, hbit]; rfl))
              clear hu hxu hz' hy' hbit hD hEn hEy hyb
              go_wp2
              go_quiet (fail)
              go_wp2
              go_quiet (fail)
              go_wp2
              go_quiet (fail)
              go_wp2_with (at_builtin; refine app_flawL rfl (.tmp 90) (.tmp 93) (w.heap.size + 1) _ (.slice ov nv cv) Lj ⟨4, j, 0⟩ rfl rfl rfl (hF.out.dr _).own (hF.out.dr _).sz hln ?_; intro v2 w2 hO2 hb2 _; have hF2 := hide' ((hF.out.dr _).app hO2 hb2); clear hO2 hb2)
              rw [← hE2.out] at hF2
              exact ⟨⟨j + 1, by omega, by go_num, hF2⟩, by simp [intOf]; omega⟩
          · have hyn : decide (0 ≤ y) = true := decide_eq_true (by omega)
            have hyd : decide (y < 0) = false := decide_eq_false (by omega)
            have hy0 : 0 ≤ y := by omega
            have hy00 : ¬ y < 0 := by omega
            by_cases h2 : y = x
            · as_aux_lemma =>
              subst h2
              have hE2 := hide' (hEn.out (flK_c hu hy'.out h1))
              clear hu hxu hz' hy' hEn hEy hyb h1
              go_wp2
              go_quiet (fail)
              go_wp2
              go_quiet (fail)
              go_wp2
              go_quiet (fail)
              go_wp2
              exact ⟨⟨j + 1, by omega, by go_num, by rw [hE2.out]; exact hF.out.dr _⟩, by simp [intOf]; omega⟩
            · as_aux_lemma =>
              have hE2 := hide' (hEy.out 3 (by decide) (flK_b hu hy'.out h1 h2))
              have hyx : (x != y) = true := by rw [bne_iff_ne]; exact fun e => h2 e.symm
              have hxy : x ≠ y := fun e => h2 e.symm
              clear hu hxu hz' hy' hEn hEy hyb h1 h2
              go_wp2
              go_quiet (fail)
              go_wp2
              go_quiet (fail)
              go_wp2_with (at_builtin; refine app_flawL rfl (.tmp 64) (.tmp 67) (w.heap.size + 1) _ (.slice ov nv cv) Lj ⟨3, j, 0⟩ rfl rfl rfl (hF.out.dr _).own (hF.out.dr _).sz hln ?_; intro v2 w2 hO2 hb2 _; have hF2 := hide' ((hF.out.dr _).app hO2 hb2); clear hO2 hb2)
              rw [← hE2.out] at hF2
              exact ⟨⟨j + 1, by omega, by go_num, hF2⟩, by simp [intOf]; omega⟩
      · obtain rfl : j = P.who.length := by omega
        clear hcl' hgt h' hbw hgx K4
        go_wp2
        go_meet
        exact hF
  case rest =>
  have hF := hcut
  obtain ⟨ov, nv, cv, rfl⟩ := hF.out.shp
  have q3 := hF.out.pb.c3
  have hls := hide' (stF_len P L P.who.length)
  obtain ⟨Ls, eL⟩ : ∃ l, l = stF P L P.who.length := ⟨_, rfl⟩
  obtain ⟨Bk, eB⟩ : ∃ l, l = broken P.rules L := ⟨_, rfl⟩
  have hfin : Hid (flwL P L = Ls ++ ruF Bk) := by unfold Hid; rw [hE'.out, eL, eB]
  rw [← eL] at hF hls
  rw [← eB] at K4 hbl
  clear hst eL eB hgt hcl' h' hgx hbw hcut hE'
  go_wp2_with fail
  refine (K4.out _ hF.out.be).mono ?_
  rintro e w5 ⟨v5, rfl, hr5, hb5⟩
  obtain ⟨ob, cb, e5⟩ := own_shp hr5
  subst e5
  have hF5 : Hid (Fs w P (.slice ow P.who.length cw) (.slice of P.fixed.length cf) (.slice or P.rules.length cr) w5 (.slice ov nv cv) (Ls ++ ruF (Bk.take 0))) := by
    rw [show ruF (Bk.take 0) = [] from rfl, List.append_nil]
    exact hF.out.over hb5
  have hr5' : Hid (w5.ownsRow 0 3 1 (.slice ob Bk.length cb) Bk.length (cellsI (ints Bk))) := owns_lowS hr5 (Nat.zero_le _)
  clear hb5 K4 q3 hr5 hF
  go_wp2
  go_loopw [5, 8] (fun v p wr => ∃ j : Nat, j ≤ Bk.length ∧ p = .int .i64 (j : Int) ∧ Hid (Fs w P (.slice ow P.who.length cw) (.slice of P.fixed.length cf) (.slice or P.rules.length cr) wr v (Ls ++ ruF (Bk.take j))) ∧ Hid (wr.ownsRow 0 3 1 (.slice ob Bk.length cb) Bk.length (cellsI (ints Bk)))) (fun _ p _ => ((Bk.length : Int) - intOf p).toNat)
  case atStart => exact ⟨0, Nat.zero_le _, rfl, hF5, hr5'⟩
  case round =>
    clear hr5' hF5
    obtain ⟨j, hj, rfl, hF, hR⟩ := hrel
    obtain ⟨ov, nv, cv, rfl⟩ := hF.out.shp
    have hbk := hbl.out
    by_cases hlt : j < Bk.length
    · as_aux_lemma =>
      have hlt' : (j : Int) < (Bk.length : Int) := by omega
      obtain ⟨r, hr⟩ : ∃ r, Bk[j]? = some r := ⟨_, List.getElem?_eq_getElem hlt⟩
      have hE : Hid (Ls ++ ruF (Bk.take (j + 1)) = (Ls ++ ruF (Bk.take j)) ++ [⟨5, 0, r⟩]) := by unfold Hid; rw [ruF_take hr, List.append_assoc]
      obtain ⟨ob', cb', e', _, hcb⟩ := RowI.of_owns hR.out
      have hcell := hcb j (r : Int) (by simp [ints, hr])
      injection e' with e1 e2 e3
      subst e1
      obtain ⟨g, o, rfl, d1⟩ := hcell
      have hlen : (Ls ++ ruF (Bk.take j)).length ≤ 1000000 := by
        have := hls.out
        simp [ruF]
        omega
      generalize Ls ++ ruF (Bk.take j) = Lj at *
      clear hr hcb e2 e3 hbl hls
      go_wp2_with (at_builtin; refine app_flawL rfl (.tmp 105) (.tmp 111) (w.heap.size + 1) wr (.slice ov nv cv) Lj ⟨5, 0, r⟩ rfl rfl rfl hF.out.own hF.out.sz hlen ?_; intro v2 w2 hO2 hb2 hk2; have hF3 := hide' (hF.out.app hO2 hb2); have hR3 := hide' (hk2 _ _ _ _ hR.out); clear hO2 hb2 hk2)
      rw [← hE.out] at hF3
      exact ⟨⟨j + 1, by omega, by go_num, hF3, hR3⟩, by simp [intOf]; omega⟩
    · as_aux_lemma =>
      obtain rfl : j = Bk.length := by omega
      rw [List.take_length, ← hfin.out] at hF
      clear hR hls hbl hbk
      go_wp2
      go_ret
      exact ⟨_, rfl, owns_lowS hF.out.own (Nat.le_succ _), hF.out.be⟩
end Go.Proofs.Ytfajgbdnfphajaa.S
