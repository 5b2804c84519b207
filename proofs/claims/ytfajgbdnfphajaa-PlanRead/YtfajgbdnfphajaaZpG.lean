/- Flaws: what is wrong with a plan. -/
import Derived.Test.YtfajgbdnfphajaaZpF
import Derived.Test.YtfajgbdnfphajaaSReoB
namespace Go.Proofs.Ytfajgbdnfphajaa.S
open Go.RowKit Go.Shelf
/-- What Flaws tells. -/
def flwR (P : Pb) (L : List Int) : List Fl := if chkN P = 0 then flwL P L else []
/-- Flaws' answer: new memory. -/
def FlP (w : World) (P : Pb) (L : List Int) (e : Ending) (w' : World) : Prop :=
  ∃ v, e = .returned (.tuple #[v, .int .i64 (chkN P : Int)]) ∧ Hid (w'.ownsRow w.heap.size 60 3 v (flwR P L).length (cellsF (flwR P L))) ∧ Hid (Below w.heap.size w w')
theorem own_oneFl (w : World) (f : Fl) : (w.alloc (.cells #[.int .i64 (f.kind : Int), .int .i64 (f.step : Int), .int .i64 (f.rule : Int)] 60)).ownsRow w.heap.size 60 3 (.slice (some ⟨w.heap.size, 0, none⟩) 1 1) 1 (cellsF [f]) :=
  ⟨rfl, .inr ⟨w.heap.size, 1, _, rfl, Nat.le_refl _, heap_new _ _, Nat.le_refl _, by decide, rfl, rfl⟩⟩
theorem ruF_take {B : List Nat} {j r : Nat} (h : B[j]? = some r) : ruF (B.take (j + 1)) = ruF (B.take j) ++ [⟨5, 0, r⟩] := by
  rw [List.take_add_one, h]; simp [ruF]
theorem own_lowB {W W' : World} {B : Nat} {e : TypeId} {sz : Nat} {v : Value} {n : Nat} {xs : List Value} (h : W.ownsRow B e sz v n xs) (hb : Below W.heap.size W W') : W'.ownsRow B e sz v n xs := own_below h hb (Nat.le_refl _)
set_option maxRecDepth 100000 in
set_option maxHeartbeats 4000000 in
theorem flawsPF (P : Pb) (wv fv rv : Value) (L : List Int) (lv : Value) (w : World) (h : PbV w P wv fv rv) (hL : RowI w lv L) (_ : L.length ≤ 1000) (hk : Pok P) :
    Calls Try.prog 17 #[pbV P wv fv rv, lv] w (FlP w P L) := by
  have hs := h.shape
  have hB0 : Hid (Below w.heap.size w (w.alloc (.cells #[.int .i64 P.users, wv, fv, rv] 27))) := (Below.refl _ w).alloc (Nat.le_refl _) _
  have hb0 : Hid (PbB (w.alloc (.cells #[.int .i64 P.users, wv, fv, rv] 27)) w.heap.size P wv fv rv) := heap_new w _
  have K1 : Hid (∀ V, Below w.heap.size w V → Calls Try.prog 25 #[pbV P wv fv rv] V fun e w' => e = .returned (.int .i64 (chkN P : Int)) ∧ Below V.heap.size V w') := fun V hV => checkPF P wv fv rv V (h.below hV) hk.w hk.f hk.r hk.s hk.b
  have K4 : Hid (∀ V, Below w.heap.size w V → Calls Try.prog 28 #[rv, lv] V fun e w' => ∃ v', e = .returned v' ∧ w'.ownsRow V.heap.size 3 1 v' (broken P.rules L).length (cellsI (ints (broken P.rules L))) ∧ Below V.heap.size V w') := fun V hV =>
    brokenF P.rules rv lv L V (h.rules.below hV (Nat.le_refl _)) (hL.below hV (Nat.le_refl _)) hk.r hk.s
  have h' := hide' h
  have hbl := hide' (Nat.le_trans (broken_lenZ P.rules L) hk.r)
  obtain ⟨ow, cw, of, cf, or, cr, rfl, rfl, rfl⟩ := hs
  obtain ⟨ol, cl, rfl, _, hcl⟩ := hL
  have hcl' := hide' hcl
  clear hcl h
  unfold FlP flwR
  by_cases hC : chkN P = 0
  case neg =>
    rw [if_neg hC]
    have hne : (((chkN P : Nat) : Int) != 0) = true := by rw [bne_iff_ne]; omega
    generalize chkN P = c at *
    unfold pbV at K1 ⊢
    clear K4 hC
    go_enter Try.func17, Try.ntmps17
    go_wp2_with fail
    refine (K1.out _ hB0.out).mono ?_
    rintro e w1 ⟨rfl, hb1⟩
    have hB1 : Hid (Below w.heap.size w w1) := hB0.out.trans (hb1.mono hB0.out.size)
    clear hb1 K1
    go_wp2
    exact bodyPost_ret (v := .tuple #[.slice none 0 0, .int .i64 (c : Int)]) (by simp [results, Try.results17, go_sem]) rfl ⟨_, rfl, World.ownsRow_nil w1 _ _ _, hB1⟩
  rw [if_pos hC, hC]
  obtain ⟨g12, g0, g64, g32, gF, gW, gR⟩ := chkN_zero hC
  obtain ⟨gl, gx⟩ := fixB_of gF g64
  have K3 : Hid (∀ V, Below w.heap.size w V → ∀ (t : Nat) (x : Int), t < P.who.length → Calls Try.prog 32 #[pbV P (.slice ow P.who.length cw) (.slice of P.fixed.length cf) (.slice or P.rules.length cr), .int .i64 (t : Int), .int .i64 x] V fun e w' => e = .returned (.int .i64 (flK P t x : Int)) ∧ Below V.heap.size V w') := fun V hV t x ht => flawOfF P _ _ _ t x V (h'.out.below hV) ht (by omega) hk.b g64
  rw [hC] at K1
  clear gx gF gW gR h' hC g64 g0 g32 gl hk
  unfold pbV at K1 K3 ⊢
  unfold flwL
  by_cases hl : L.length = P.who.length
  case neg =>
    rw [if_neg hl]
    have hl' : ((L.length : Int) != (P.who.length : Int)) = true := by rw [bne_iff_ne]; omega
    have hl2 : (L.length : Int) ≠ (P.who.length : Int) := by omega
    clear K3 K4 hcl' hl
    go_enter Try.func17, Try.ntmps17
    go_wp2_with fail
    refine (K1.out _ hB0.out).mono ?_
    rintro e w1 ⟨rfl, hb1⟩
    have hB1 : Hid (Below w.heap.size w w1) := hB0.out.trans (hb1.mono hB0.out.size)
    have hp := hide' (hb0.out.below hb1)
    have q1 := hp.out.c1
    clear hb1 K1
    go_wp2
    exact bodyPost_ret (v := .tuple #[.slice (some ⟨w1.heap.size, 0, none⟩) 1 1, .int .i64 0]) (by simp [results, Try.results17, go_sem]) rfl ⟨_, rfl, owns_lowS (own_oneFl w1 ⟨1, 0, 0⟩) hB1.out.size, hB1.out.alloc hB1.out.size _⟩
  rw [if_pos hl, hl]
  have hgl : Hid (∀ j, j < P.who.length → ∃ x, L[j]? = some x) := fun j hj => ⟨_, List.getElem?_eq_getElem (hl ▸ hj)⟩
  rw [hl] at K4
  clear hl
  go_enter Try.func17, Try.ntmps17
  go_wp2_with fail
  refine (K1.out _ hB0.out).mono ?_
  rintro e w1 ⟨rfl, hb1⟩
  have hB1 : Hid (Below w.heap.size w w1) := hB0.out.trans (hb1.mono hB0.out.size)
  have hp := hide' (hb0.out.below hb1)
  have q1 := hp.out.c1
  clear hb1 K1 hB0 hb0
  go_upto_block 0 with fail
  go_cut [7, 8, 9, 10] from 27 to 46 (fun v _ _ _ wx => Hid (wx.ownsRow (w.heap.size + 1) 60 3 v (stF P L P.who.length).length (cellsF (stF P L P.who.length))) ∧ Hid (Below w.heap.size w wx) ∧ Hid (PbB wx w.heap.size P (.slice ow P.who.length cw) (.slice of P.fixed.length cf) (.slice or P.rules.length cr)))
  case first =>
    as_aux_lemma =>
    go_wp2_with fail
    go_loopw [7, 8, 9, 10, 28] (fun v _ _ _ p wr => ∃ j : Nat, j ≤ P.who.length ∧ p = .int .i64 (j : Int) ∧ Hid (wr.ownsRow (w.heap.size + 1) 60 3 v (stF P L j).length (cellsF (stF P L j))) ∧ Hid (Below w.heap.size w wr) ∧ Hid (PbB wr w.heap.size P (.slice ow P.who.length cw) (.slice of P.fixed.length cf) (.slice or P.rules.length cr))) (fun _ _ _ _ p _ => ((P.who.length : Int) - intOf p).toNat)
    case atStart => exact ⟨0, Nat.zero_le _, rfl, World.ownsRow_nil w1 _ _ _, hB1, hp⟩
    case round =>
      clear hB1 hp q1 K4
      obtain ⟨j, hj, rfl, hO, hB, hb⟩ := hrel
      by_cases hlt : j < P.who.length
      · have hlt' : (j : Int) < (P.who.length : Int) := by omega
        obtain ⟨x, hx⟩ := hgl.out j hlt
        obtain ⟨g, o, rfl, d1⟩ := hcl'.out j x hx
        have d2 := M.cell_over d1 hB.out
        have q0 := hb.out.c0
        have q1 := hb.out.c1
        have q2 := hb.out.c2
        have q3 := hb.out.c3
        have KF := hide' (K3.out wr hB.out j x hlt)
        have hln := hide' (stF_len P L j)
        have hsn := hide' (stF_succ P L j)
        have hno := hide' (fun h => fl1_no (P := P) hx h)
        have hye := hide' (fun h => fl1_yes (P := P) hx h)
        clear d1 hx hgl K3
        by_cases hk0 : flK P j x = 0
        · have hE : Hid (stF P L (j + 1) = stF P L j) := by show _ = _; rw [hsn.out, hno.out hk0, List.append_nil]
          rw [hk0] at KF
          clear hno hye hsn hk0
          go_wp2_with fail
          refine KF.out.mono ?_
          rintro e w5 ⟨rfl, hb5⟩
          have hB5 : Hid (Below w.heap.size w w5) := hB.out.trans (hb5.mono hB.out.size)
          have hp5 := hide' (hb.out.below hb5)
          have hO5 := hide' (own_lowB hO.out hb5)
          clear hb5 hB hb KF q0 q1 q2 q3 d2 hO
          go_wp2
          exact ⟨⟨j + 1, by omega, by go_num, by rw [hE.out]; exact hO5, hB5, hp5⟩, by simp [intOf]; omega⟩
        · have hE : Hid (stF P L (j + 1) = stF P L j ++ [⟨flK P j x, j, 0⟩]) := by show _ = _; rw [hsn.out, hye.out hk0]
          have hkb : (((flK P j x : Nat) : Int) != 0) = true := by rw [bne_iff_ne]; omega
          have hlj : (stF P L j).length ≤ 1000000 := by have := hln.out; omega
          obtain ⟨ov, nv, cv, rfl⟩ : ∃ a b c, u7 = .slice a b c := by obtain ⟨a, c, e⟩ := own_shp hO.out; exact ⟨a, _, c, e⟩
          generalize flK P j x = kk at *
          generalize stF P L j = Lj at *
          clear hno hye hsn hk0 hln
          go_wp2_with fail
          refine KF.out.mono ?_
          rintro e w5 ⟨rfl, hb5⟩
          have hB5 : Hid (Below w.heap.size w w5) := hB.out.trans (hb5.mono hB.out.size)
          have hp5 := hide' (hb.out.below hb5)
          have hO5 := hide' (own_lowB hO.out hb5)
          have hz5 : w.heap.size + 1 ≤ w5.heap.size := (Array.getElem?_eq_some_iff.1 hp5.out).1
          clear hb5 hB hb KF q0 q1 q2 q3 d2 hO
          go_wp2_with (at_builtin; refine app_flawL rfl (.tmp 39) (.tmp 43) (w.heap.size + 1) w5 (.slice ov nv cv) Lj ⟨kk, j, 0⟩ rfl rfl rfl hO5.out hz5 hlj ?_; intro v2 w2 hO2 hb2 _; have hO3 := hide' hO2; have hB3 : Hid (Below w.heap.size w w2) := hB5.out.trans (hb2.mono (Nat.le_succ _)); have hp3 : Hid (PbB w2 w.heap.size P (.slice ow P.who.length cw) (.slice of P.fixed.length cf) (.slice or P.rules.length cr)) := (hb2.block _ (Nat.lt_succ_self _)).trans hp5.out; clear hO2 hb2)
          rw [← hE.out] at hO3
          exact ⟨⟨j + 1, by omega, by go_num, hO3, hB3, hp3⟩, by simp [intOf]; omega⟩
      · obtain rfl : j = P.who.length := by omega
        clear hcl' K3 hgl
        go_wp2
        go_meet
        exact ⟨hO, hB, hb⟩
  case rest =>
  obtain ⟨hO, hB, hb⟩ := hcut
  have q3 := hb.out.c3
  have hls := hide' (stF_len P L P.who.length)
  obtain ⟨ov, nv, cv, rfl⟩ : ∃ a b c, u7 = .slice a b c := by obtain ⟨a, c, e⟩ := own_shp hO.out; exact ⟨a, _, c, e⟩
  have hfin : Hid (∀ (W : World) (v : Value), W.ownsRow (w.heap.size + 1) 60 3 v (stF P L P.who.length ++ ruF (broken P.rules L)).length (cellsF (stF P L P.who.length ++ ruF (broken P.rules L))) → Hid (W.ownsRow w.heap.size 60 3 v (stF P L P.who.length ++ ruF (broken P.rules L)).length (cellsF (stF P L P.who.length ++ ruF (broken P.rules L))))) := fun W v h => owns_lowS h (Nat.le_succ _)
  obtain ⟨Ls, eL⟩ : ∃ l, l = stF P L P.who.length := ⟨_, rfl⟩
  obtain ⟨Bk, eB⟩ : ∃ l, l = broken P.rules L := ⟨_, rfl⟩
  have eL' := hide' eL
  have eB' := hide' eB
  rw [← eL] at hO hls
  rw [← eB] at K4 hbl
  clear K3 hgl hcl' hB1 hp q1 eL eB
  go_wp2_with fail
  refine (K4.out _ hB.out).mono ?_
  rintro e w5 ⟨v5, rfl, hr5, hb5⟩
  obtain ⟨ob, cb, e5⟩ := own_shp hr5
  subst e5
  have hB5 : Hid (Below w.heap.size w w5) := hB.out.trans (hb5.mono hB.out.size)
  have hz5 : Hid (w.heap.size + 1 ≤ w5.heap.size) := Nat.lt_of_lt_of_le (Array.getElem?_eq_some_iff.1 hb.out).1 hb5.size
  have hO5 := hide' (own_lowB hO.out hb5)
  have hr5' : Hid (w5.ownsRow 0 3 1 (.slice ob Bk.length cb) Bk.length (cellsI (ints Bk))) := owns_lowS hr5 (Nat.zero_le _)
  clear hb5 hB hb K4 q3 hr5 hO
  go_wp2
  go_loopw [7, 12, 51] (fun v _ p wr => ∃ j : Nat, j ≤ Bk.length ∧ p = .int .i64 (j : Int) ∧ Hid (wr.ownsRow (w.heap.size + 1) 60 3 v (Ls ++ ruF (Bk.take j)).length (cellsF (Ls ++ ruF (Bk.take j)))) ∧ Hid (Below w.heap.size w wr) ∧ Hid (wr.ownsRow 0 3 1 (.slice ob Bk.length cb) Bk.length (cellsI (ints Bk))) ∧ Hid (w.heap.size + 1 ≤ wr.heap.size)) (fun _ _ p _ => ((Bk.length : Int) - intOf p).toNat)
  case atStart => exact ⟨0, Nat.zero_le _, rfl, by simpa [ruF] using hO5, hB5, hr5', hz5⟩
  case round =>
    clear hB5 hr5' hz5 hO5
    obtain ⟨j, hj, rfl, hO, hB, hR, hz⟩ := hrel
    have hbk := hbl.out
    by_cases hlt : j < Bk.length
    · as_aux_lemma =>
      have hlt' : (j : Int) < (Bk.length : Int) := by omega
      obtain ⟨r, hr⟩ : ∃ r, Bk[j]? = some r := ⟨_, List.getElem?_eq_getElem hlt⟩
      have hE : Hid (Ls ++ ruF (Bk.take (j + 1)) = (Ls ++ ruF (Bk.take j)) ++ [⟨5, 0, r⟩]) := by show _ = _; rw [ruF_take hr, List.append_assoc]
      obtain ⟨ob', cb', e', _, hcb⟩ := RowI.of_owns hR.out
      have hcell := hcb j (r : Int) (by simp [ints, hr])
      injection e' with e1 e2 e3
      subst e1
      obtain ⟨g, o, rfl, d1⟩ := hcell
      have hlen : (Ls ++ ruF (Bk.take j)).length ≤ 1000000 := by
        have := hls.out
        simp [ruF]
        omega
      obtain ⟨ov, nv, cv, rfl⟩ : ∃ a b c, u7 = .slice a b c := by obtain ⟨a, c, e⟩ := own_shp hO.out; exact ⟨a, _, c, e⟩
      have hz' : w.heap.size + 1 ≤ wr.heap.size := hz.out
      generalize Ls ++ ruF (Bk.take j) = Lj at *
      clear hr hcb e2 e3 hbl hls hz
      go_wp2_with (at_builtin; refine app_flawL rfl (.tmp 55) (.tmp 58) (w.heap.size + 1) wr (.slice ov nv cv) Lj ⟨5, 0, r⟩ rfl rfl rfl hO.out hz' hlen ?_; intro v2 w2 hO2 hb2 hk2; have hO3 := hide' hO2; have hB3 : Hid (Below w.heap.size w w2) := hB.out.trans (hb2.mono (Nat.le_succ _)); have hR3 := hide' (hk2 _ _ _ _ hR.out); have hz3 : Hid (w.heap.size + 1 ≤ w2.heap.size) := Nat.le_trans hz' hb2.size; clear hO2 hb2 hk2)
      rw [← hE.out] at hO3
      exact ⟨⟨j + 1, by omega, by go_num, hO3, hB3, hR3, hz3⟩, by simp [intOf]; omega⟩
    · as_aux_lemma =>
      obtain rfl : j = Bk.length := by omega
      rw [List.take_length] at hO
      obtain ⟨ov, nv, cv, rfl⟩ : ∃ a b c, u7 = .slice a b c := by obtain ⟨a, c, e⟩ := own_shp hO.out; exact ⟨a, _, c, e⟩
      clear hR hls hbl hz hbk
      go_wp2
      exact bodyPost_ret (v := .tuple #[.slice ov nv cv, .int .i64 0]) (by simp [results, Try.results17, go_sem]) rfl ⟨_, rfl, hfin.out _ _ (by rw [← eL'.out, ← eB'.out]; exact hO.out), hB⟩
end Go.Proofs.Ytfajgbdnfphajaa.S
