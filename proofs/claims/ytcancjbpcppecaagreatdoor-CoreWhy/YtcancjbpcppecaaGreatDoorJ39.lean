/- The document's Why. -/
import Derived.Test.YtcancjbpcppecaaGreatDoorJ29
import Derived.Test.YtcancjbpcppecaaGreatDoorJ33
import Derived.Test.YtcancjbpcppecaaGreatDoorJ38
namespace Go.Proofs.YtcancjbpcppecaaGreatDoor.S
open Go.RowKit Go.Shelf
/-- A number laid behind a row of one's own. -/
theorem app_oneC {ops : Array Oper} {rest : List Oper} {o : Oper} {a : Act} {Q : Exit → Act → World → Prop} (hgd : o.guard = none) (s x : Operand) (B : Nat) (W : World) (v : Value) (l : List Int) (z : Int) (ho : o.op = .call { callee := .builtin .append, args := #[s, x], argTypes := #[23, 23] })
    (es : a.eval s = v) (ex : a.eval x = .slice (some ⟨W.heap.size, 0, none⟩) 1 1) (hT : W.ownsRow B 3 1 v l.length (cellsI l)) (hB : B ≤ W.heap.size) (hn : l.length ≤ 1000000)
    (hK : ∀ o2 n2 c2 w2, Hid (w2.ownsRow B 3 1 (.slice o2 n2 c2) (l ++ [z]).length (cellsI (l ++ [z]))) → Hid (Below B W w2) → wpList Tryz.prog ops Q rest (a.put o.dst (.slice o2 n2 c2)) w2) : wpList Tryz.prog ops Q (o :: rest) a (W.alloc (.cells #[.int .i64 z] 3)) := by
  obtain ⟨i0, hi, hz0, hz1, hz2⟩ := info_parts info3
  refine wpList_append_own _ hgd s x 23 ho B 3 i0 (.int .i64 0) 1 8 Tryz.underlying23 hi hz0 hz1 hz2 rfl (by decide) v l.length (cellsI l) es (hT.alloc _) ⟨W.heap.size, 0, none⟩ 1 1 [.int .i64 z] ex rfl (World.news_of_block (cs := #[.int .i64 z]) (heap_new _ _)) (by simp [Value.oneCell']) (by unfold maxLen; omega) (by omega) (by simp; omega) ?_
  intro v2 w2 hown hgrow _
  obtain ⟨o2, c2, rfl⟩ := own_shp hown
  refine hK _ _ _ _ ?_ (((Below.refl B W).alloc hB _).grown hgrow (by simp; omega) (fun j ej => (hT.lt j ej).1))
  show World.ownsRow _ _ _ _ _ _ _
  rw [List.length_append]
  simpa [cellsI] using hown
theorem ints_snocC (L : List Nat) (i : Nat) : ints L ++ [(i : Int)] = ints (L ++ [i]) := by simp [ints]
/-- What stands in the loops: the problem's box, all else below. -/
structure Yb (w : World) (P : Pb) (wv fv rvv : Value) (V : World) : Prop where
  pb : PbB V w.heap.size P wv fv rvv
  pv : PbV V P wv fv rvv
  tab : M.Tab V
  be : Below w.heap.size w V
theorem Yb.over {w : World} {P : Pb} {wv fv rvv : Value} {V V' : World} (h : Yb w P wv fv rvv V) (hb : Below V.heap.size V V') : Yb w P wv fv rvv V' := ⟨h.pb.below hb, h.pv.below hb, h.tab.over hb, h.be.trans (hb.mono h.be.size)⟩
set_option maxRecDepth 100000 in
set_option maxHeartbeats 16000000 in
theorem whyD (P : Pb) (wv fv rvv : Value) (w : World) (h : PbV w P wv fv rvv) (hk : Pok P) (ht : M.Tab w) :
    Calls Tryz.prog 6 #[pbV P wv fv rvv] w (WhP w P) := by
  have hs := h.shape
  have hB0 : Below w.heap.size w (w.alloc (.cells #[.int .i64 P.users, wv, fv, rvv] 26)) := (Below.refl _ w).alloc (Nat.le_refl _) _
  have hY0 : Hid (Yb w P wv fv rvv (w.alloc (.cells #[.int .i64 P.users, wv, fv, rvv] 26))) := ⟨heap_new w _, h.below hB0, ht.over hB0, hB0⟩
  have KC : Hid (∀ V, Yb w P wv fv rvv V → Calls Tryz.prog 18 #[pbV P wv fv rvv] V fun e w' => e = .returned (.int .i64 (chkN P : Int)) ∧ Below V.heap.size V w') := fun V hV => rCheckF P wv fv rvv V hV.pv hk
  have KN : Hid (∀ V, Yb w P wv fv rvv V → Calls Tryz.prog 19 #[pbV P wv fv rvv] V fun e w' => e = .returned (.bool (canB P)) ∧ Below V.heap.size V w') := fun V hV => canDF P wv fv rvv V hV.pv hk hV.tab
  have KW : Hid (∀ V vr vs (RA RB : List Nat), Yb w P wv fv rvv V → RowI V vr (ints RA) → RowI V vs (ints RB) → RA.length ≤ 1000 → RB.length ≤ 1000 → Calls Tryz.prog 20 #[pbV P wv fv rvv, vr, vs] V (WtP V (wtP P (ints RA) (ints RB)) (wtN P (ints RA) (ints RB)))) := fun V vr vs RA RB hV h1 h2 h3 h4 => withoutD P wv fv rvv vr vs (ints RA) (ints RB) V hV.pv hk h1 h2 (by rw [ints_len]; exact h3) (by rw [ints_len]; exact h4)
  have KX : Hid (∀ (X : Pb) V a b c, Pok X → M.Tab V → PbV V X a b c → Calls Tryz.prog 19 #[.agg #[.int .i64 X.users, a, b, c]] V fun e w' => e = .returned (.bool (canB X)) ∧ Below V.heap.size V w') := fun X V a b c hX ht hV => canDF X a b c V hV hX ht
  have hbad : Hid ((chkN P ≠ 0 ∨ canB P = true) → WhS P [] [] false) := fun hb => ⟨(fun h1 h2 => by
    rcases hb with h | h
    · exact absurd h1 h
    · rw [h2] at h; cases h), (fun _ => ⟨rfl, rfl, rfl⟩)⟩
  have hgood : Hid (chkN P = 0 → canB P = false → WhS P (whyA P) (whyB P) true) := fun h1 h2 => ⟨fun _ _ => ⟨rfl, rfl, rfl⟩, fun hb => by
    rcases hb with h | h
    · exact absurd h1 h
    · rw [h2] at h; cases h⟩
  have hS1 : Hid (chkN P = 0 → ∀ i, i < P.rules.length → WyS P (rsL i (grd (stF1 P) [] 0 i) ++ [i]) [] (!stF1 P (sprd (grd (stF1 P) [] 0 i) (i + 1)))) := fun hP i hi => wyS1 hP hk hi
  have hS2 : Hid (chkN P = 0 → ∀ i, i < P.who.length → WyS P (rsL P.rules.length (whyA P)) (rsL i (grd (stF2 P (whyA P)) [] 0 i) ++ [i]) (!stF2 P (whyA P) (sprd (grd (stF2 P (whyA P)) [] 0 i) (i + 1)))) := fun hP i hi => wyS2 hP hk hi
  have hr1000 := hk.r
  have hw1000 := hk.w
  obtain ⟨ow, cw, of, cf, or, cr, rfl, rfl, rfl⟩ := hs
  unfold pbV at KC KN KW ⊢
  clear h hk ht hB0
  go_enter Tryz.func6, Tryz.ntmps6
  have q := hY0.out.pb.all
  go_wp2_with fail
  refine (KC.out _ hY0.out).mono ?_
  rintro e w1 ⟨rfl, hb1⟩
  have hY1 := hide' (hY0.out.over hb1)
  clear KC hY0 q hb1
  by_cases hP : chkN P = 0
  case neg =>
    have hW := hide' (hbad.out (.inl hP))
    have hne : ¬ ((chkN P : Nat) : Int) = 0 := by omega
    have hne' : (((chkN P : Nat) : Int) != 0) = true := by rw [bne_iff_ne]; exact hne
    have hB := hide' hY1.out.be
    clear hbad hgood hS1 hS2 KN KW KX hP hY1
    generalize ((chkN P : Nat) : Int) = z at *
    go_wp2
    refine bodyPost_ret (v := .tuple #[.slice none 0 0, .slice none 0 0, .bool false]) (by simp [results, Tryz.results6, go_sem]) rfl ?_
    exact ⟨none, 0, none, 0, [], [], false, rfl, row_nilC _, row_nilC _, hB, hW⟩
  have hS1' := hide' (hS1.out hP)
  have hS2' := hide' (hS2.out hP)
  have hP' := hide' hP
  rw [hP]
  have q := hY1.out.pb.all
  clear hS1 hS2 hP
  go_wp2_with fail
  refine (KN.out _ hY1.out).mono ?_
  rintro e w2 ⟨rfl, hb2⟩
  have hY2 := hide' (hY1.out.over hb2)
  clear KN hY1 q hb2
  cases hc : canB P with
  | true =>
    have hW := hide' (hbad.out (.inr hc))
    have hB := hide' hY2.out.be
    clear hbad hgood hS1' hS2' KW KX hY2 hc hP'
    go_wp2
    refine bodyPost_ret (v := .tuple #[.slice none 0 0, .slice none 0 0, .bool false]) (by simp [results, Tryz.results6, go_sem]) rfl ?_
    exact ⟨none, 0, none, 0, [], [], false, rfl, row_nilC _, row_nilC _, hB, hW⟩
  | false =>
  have hW := hide' (hgood.out hP'.out hc)
  clear hbad hgood hc
  have hG1 : Hid (∀ i, GdS (grd (stF1 P) [] 0) (fun i => stF1 P (sprd (grd (stF1 P) [] 0 i) (i + 1))) i) := fun i => gdS (stF1 P) i
  have hG2 : Hid (∀ i, GdS (grd (stF2 P (whyA P)) [] 0) (fun i => stF2 P (whyA P) (sprd (grd (stF2 P (whyA P)) [] 0 i) (i + 1))) i) := fun i => gdS (stF2 P (whyA P)) i
  have hL1 : Hid (∀ i, (grd (stF1 P) [] 0 i).length ≤ i) := fun i => grd_lenW _ i
  have hL2 : Hid (∀ i, (grd (stF2 P (whyA P)) [] 0 i).length ≤ i) := fun i => grd_lenW _ i
  have hR1 : Hid (∀ i, (rsL i (grd (stF1 P) [] 0 i)).length ≤ i) := fun i => rsL_len _ _
  have hR2 : Hid (∀ i, (rsL i (grd (stF2 P (whyA P)) [] 0 i)).length ≤ i) := fun i => rsL_len _ _
  have hRA : Hid ((rsL P.rules.length (whyA P)).length ≤ 1000) := Nat.le_trans (rsL_len _ _) hr1000
  have e00 : Hid (grd (stF1 P) [] 0 0 = []) := rfl
  have e10 : Hid (grd (stF2 P (whyA P)) [] 0 0 = []) := rfl
  have eA : Hid (grd (stF1 P) [] 0 P.rules.length = whyA P) := rfl
  have eB : Hid (grd (stF2 P (whyA P)) [] 0 P.who.length = whyB P) := rfl
  generalize grd (stF1 P) [] 0 = K1 at *
  generalize grd (stF2 P (whyA P)) [] 0 = K2 at *
  generalize whyA P = A at *
  generalize whyB P = B at *
  have hS1 : Hid (∀ i, i < P.rules.length → ∃ z, WyS P (rsL i (K1 i) ++ [i]) [] (!z) ∧ (z = true → K1 (i + 1) = K1 i ∧ rsL (i + 1) (K1 (i + 1)) = rsL i (K1 i) ++ [i]) ∧ (z = false → K1 (i + 1) = K1 i ++ [i] ∧ rsL (i + 1) (K1 (i + 1)) = rsL i (K1 i))) := fun i hi => ⟨_, hS1'.out i hi, (hG1.out i).no, (hG1.out i).yes⟩
  have hS2 : Hid (∀ i, i < P.who.length → ∃ z, WyS P (rsL P.rules.length A) (rsL i (K2 i) ++ [i]) (!z) ∧ (z = true → K2 (i + 1) = K2 i ∧ rsL (i + 1) (K2 (i + 1)) = rsL i (K2 i) ++ [i]) ∧ (z = false → K2 (i + 1) = K2 i ++ [i] ∧ rsL (i + 1) (K2 (i + 1)) = rsL i (K2 i))) := fun i hi => ⟨_, hS2'.out i hi, (hG2.out i).no, (hG2.out i).yes⟩
  clear hS1' hS2' hG1 hG2 hP'
  have hD0 : Hid (Yd w2 (.slice none 0 0) (.slice none 0 0) (rsL 0 (K1 0)) (K1 0) w2) := by rw [e00.out]; exact Yd.start w2
  go_upto_block 0 with fail
  go_cut [5, 7, 9, 10, 11, 12] from 24 to 51 (fun rv lv _ _ _ _ wx => ∃ (o1 : Option Addr) (n1 c1 : Nat) (o2 : Option Addr) (n2 c2 : Nat), rv = .slice o1 n1 c1 ∧ lv = .slice o2 n2 c2 ∧ Hid (Yd w2 (.slice o1 n1 c1) (.slice o2 n2 c2) (rsL P.rules.length A) A wx))
  case first =>
    go_wp2
    go_loopw [5, 7, 9, 10, 11, 12] (fun rv lv k _ _ _ wr => ∃ (i : Nat) (o1 : Option Addr) (n1 c1 : Nat) (o2 : Option Addr) (n2 c2 : Nat), i ≤ P.rules.length ∧ k = .int .i64 (i : Int) ∧ rv = .slice o1 n1 c1 ∧ lv = .slice o2 n2 c2 ∧ Hid (Yd w2 (.slice o1 n1 c1) (.slice o2 n2 c2) (rsL i (K1 i)) (K1 i) wr)) (fun _ _ k _ _ _ _ => ((P.rules.length : Int) - intOf k).toNat)
    case atStart => exact ⟨0, none, 0, 0, none, 0, 0, Nat.zero_le _, rfl, rfl, rfl, hD0⟩
    case round =>
      clear hD0
      obtain ⟨i, o1, n1, c1, o2, n2, c2, hin, rfl, rfl, rfl, hD⟩ := hrel
      have hYr := hide' (hY2.out.over hD.out.be)
      have q3 := hYr.out.pb.all.2.2.2
      by_cases hlt : i < P.rules.length
      · as_aux_lemma =>
        obtain ⟨z, hWy, hno, hyes⟩ := hS1.out i hlt
        have hK' := hL1.out i
        have hR' := hR1.out i
        have hWy' := hide' hWy
        have hno' := hide' hno
        have hyes' := hide' hyes
        clear hWy hno hyes hS1 hS2 hL1 hL2 hR1 hR2 hRA eA eB e00 e10 hW hY2
        generalize hKn : K1 (i + 1) = KN at *
        generalize hRn : rsL (i + 1) KN = RN at *
        generalize hKi : K1 i = KK at *
        generalize hRi : rsL i KK = RR at *
        clear hKi hRi
        have hrow := hide' (RowI.of_owns hD.out.r)
        have hil : (ints RR).length ≤ 1000 := by rw [ints_len]; omega
        have hil2 : (ints RR).length ≤ 1000000 := by omega
        have hKl : KK.length ≤ 1000 := by omega
        have hRl : (RR ++ [i]).length ≤ 1000 := by rw [List.length_append, List.length_singleton]; omega
        go_wp2_with (first | (at_builtin; refine app_oneC rfl (.tmp 34) (.tmp 36) wr.heap.size w13 _ (ints RR) (i : Int) rfl rfl rfl hO13.out hb13.out.size hil2 ?_; intro o14 n14 c14 w14 hO14 hb14'; have q4 := (hYr.out.over (hb13.out.trans hb14'.out)).pb.all) | (at_builtin; refine all_intsS rfl (.tmp 31) (.tmp 32) wr _ (ints RR) rfl rfl rfl hrow.out hil ?_; intro o13 n13 c13 w13 hO13 hb13))
        have hb14 : Hid (Below wr.heap.size wr w14) := hb13.out.trans hb14'.out
        have hY4 := hide' (hYr.out.over hb14.out)
        have hnew : Hid (w14.ownsRow wr.heap.size 3 1 (.slice o14 n14 c14) (RR ++ [i]).length (cellsI (ints (RR ++ [i])))) := by
          have := hO14.out
          rw [ints_snocC, ints_len] at this
          exact this
        clear hO13 hb13 hO14 hb14' hrow q3
        refine (KW.out w14 _ _ (RR ++ [i]) [] hY4.out (RowI.of_owns hnew.out) (row_nilC _) hRl (by simp)).mono ?_
        rintro e w15 ⟨a1, a2, a3, a4, a5, a6, a7, a8, a9, rfl, hpv, hb15, _, _⟩
        have hok := hWy'.out.ok
        have hcan := hWy'.out.can
        generalize wtP P (ints (RR ++ [i])) (ints []) = X at *
        have hb16 : Hid (Below w15.heap.size w15 (w15.alloc (.cells #[.int .i64 X.users, .slice a1 a2 a3, .slice a4 a5 a6, .slice a7 a8 a9] 26))) := (Below.refl _ w15).alloc (Nat.le_refl _) _
        have hbx : Hid (Below w14.heap.size w14 (w15.alloc (.cells #[.int .i64 X.users, .slice a1 a2 a3, .slice a4 a5 a6, .slice a7 a8 a9] 26))) := hb15.out.trans (hb16.out.mono hb15.out.size)
        have hY6 := hide' (hY4.out.over hbx.out)
        have KX6 := hide' (KX.out X _ _ _ _ hok hY6.out.tab (hpv.out.below hb16.out))
        rw [hcan] at KX6
        clear hok hcan hpv hb16 hb15 KW KX hWy' q4 hY6
        go_wp2_with fail
        refine KX6.out.mono ?_
        rintro e w17 ⟨rfl, hb17⟩
        have hb7 : Hid (Below w14.heap.size w14 w17) := hbx.out.trans (hb17.mono hbx.out.size)
        clear KX6 hbx hb17
        cases z with
        | true =>
          obtain ⟨e1, e2⟩ := hno'.out rfl
          have hDn : Hid (Yd w2 (.slice o14 n14 c14) (.slice o2 n2 c2) RN KN w17) := by
            rw [e1, e2]
            exact (hD.out.take hb14.out hnew.out).over hb7.out
          clear hno' hyes' e1 e2 hD hnew hb14 hb7 hY4
          go_wp2
          exact ⟨⟨i + 1, o14, n14, c14, o2, n2, c2, by omega, by go_num, rfl, rfl, by rw [hKn, hRn]; exact hDn⟩, by simp [intOf]; omega⟩
        | false =>
          obtain ⟨e1, e2⟩ := hyes'.out rfl
          have hD7 := hide' ((hD.out.over hb14.out).over hb7.out)
          have hfin : Hid (∀ o8 n8 c8 w8, Yd w2 (.slice o1 n1 c1) (.slice o8 n8 c8) RR (KK ++ [i]) w8 → Yd w2 (.slice o1 n1 c1) (.slice o8 n8 c8) RN KN w8) := fun o8 n8 c8 w8 h8 => by rw [e1, e2]; exact h8
          clear hno' hyes' e1 e2 hD hnew hb14 hb7 hY4
          go_wp2_with (at_builtin; refine hD7.out.push rfl (.tmp 47) (.tmp 49) i rfl rfl rfl hKl ?_; intro o18 n18 c18 w18 hD18)
          exact ⟨⟨i + 1, o1, n1, c1, o18, n18, c18, by omega, by go_num, rfl, rfl, by rw [hKn, hRn]; exact hfin.out _ _ _ _ hD18.out⟩, by simp [intOf]; omega⟩
      · obtain rfl : i = P.rules.length := by omega
        rw [eA.out] at hD
        clear hS1 hL1 hR1 e00 hS2 hL2 hR2 hW hYr hY2
        go_wp2
        go_meet
        exact ⟨o1, n1, c1, o2, n2, c2, rfl, rfl, hD⟩
  case rest =>
  clear hS1 hL1 hR1 e00 hD0 eA
  obtain ⟨o1, n1, c1, o2, n2, c2, rfl, rfl, hD⟩ := hcut
  have hYr := hide' (hY2.out.over hD.out.be)
  obtain ⟨Wm, rfl⟩ : ∃ W, W = wc := ⟨_, rfl⟩
  have hrA := hide' (RowI.of_owns hD.out.r)
  have hlA := hide' (RowI.of_owns hD.out.l)
  obtain rfl : n2 = A.length := by
    obtain ⟨_, _, hsh⟩ := own_shp hD.out.l
    injection hsh
  have hYm := hYr
  have hE0 : Hid (Yd Wm (.slice none 0 0) (.slice none 0 0) (rsL 0 (K2 0)) (K2 0) Wm) := by rw [e10.out]; exact Yd.start Wm
  clear hD hYr hY2
  go_wp2
  go_loopw [6, 8, 13, 14, 15, 16] (fun rv lv k _ _ _ wr => ∃ (i : Nat) (o3 : Option Addr) (n3 c3 : Nat) (o4 : Option Addr) (n4 c4 : Nat), i ≤ P.who.length ∧ k = .int .i64 (i : Int) ∧ rv = .slice o3 n3 c3 ∧ lv = .slice o4 n4 c4 ∧ Hid (Yd Wm (.slice o3 n3 c3) (.slice o4 n4 c4) (rsL i (K2 i)) (K2 i) wr)) (fun _ _ k _ _ _ _ => ((P.who.length : Int) - intOf k).toNat)
  case atStart => exact ⟨0, none, 0, 0, none, 0, 0, Nat.zero_le _, rfl, rfl, rfl, hE0⟩
  case round =>
    clear hE0
    obtain ⟨i, o3, n3, c3, o4, n4, c4, hin, rfl, rfl, rfl, hE⟩ := hrel
    have hYs := hide' (hYm.out.over hE.out.be)
    have q3 := hYs.out.pb.all.2.1
    by_cases hlt : i < P.who.length
    · as_aux_lemma =>
      obtain ⟨z, hWy, hno, hyes⟩ := hS2.out i hlt
      have hK' := hL2.out i
      have hR' := hR2.out i
      have hWy' := hide' hWy
      have hno' := hide' hno
      have hyes' := hide' hyes
      clear hWy hno hyes hS2 hL2 hR2 hW eB e10 hYm hlA
      generalize hKn : K2 (i + 1) = KN at *
      generalize hRn : rsL (i + 1) KN = RN at *
      generalize hKi : K2 i = KK at *
      generalize hRi : rsL i KK = RR at *
      clear hKi hRi
      have hrow := hide' (RowI.of_owns hE.out.r)
      have hil : (ints RR).length ≤ 1000 := by rw [ints_len]; omega
      have hil2 : (ints RR).length ≤ 1000000 := by omega
      have hKl : KK.length ≤ 1000 := by omega
      have hRl : (RR ++ [i]).length ≤ 1000 := by rw [List.length_append, List.length_singleton]; omega
      go_wp2_with (first | (at_builtin; refine app_oneC rfl (.tmp 62) (.tmp 64) wr.heap.size w13 _ (ints RR) (i : Int) rfl rfl rfl hO13.out hb13.out.size hil2 ?_; intro o14 n14 c14 w14 hO14 hb14'; have q4 := (hYs.out.over (hb13.out.trans hb14'.out)).pb.all) | (at_builtin; refine all_intsS rfl (.tmp 59) (.tmp 60) wr _ (ints RR) rfl rfl rfl hrow.out hil ?_; intro o13 n13 c13 w13 hO13 hb13))
      have hb14 : Hid (Below wr.heap.size wr w14) := hb13.out.trans hb14'.out
      have hY4 := hide' (hYs.out.over hb14.out)
      have hnew : Hid (w14.ownsRow wr.heap.size 3 1 (.slice o14 n14 c14) (RR ++ [i]).length (cellsI (ints (RR ++ [i])))) := by
        have := hO14.out
        rw [ints_snocC, ints_len] at this
        exact this
      clear hO13 hb13 hO14 hb14' hrow q3
      refine (KW.out w14 _ _ (rsL P.rules.length A) (RR ++ [i]) hY4.out (hrA.out.below (hE.out.be.trans (hb14.out.mono hE.out.be.size)) (Nat.le_refl _)) (RowI.of_owns hnew.out) hRA.out hRl).mono ?_
      rintro e w15 ⟨a1, a2, a3, a4, a5, a6, a7, a8, a9, rfl, hpv, hb15, _, _⟩
      have hok := hWy'.out.ok
      have hcan := hWy'.out.can
      generalize wtP P (ints (rsL P.rules.length A)) (ints (RR ++ [i])) = X at *
      have hb16 : Hid (Below w15.heap.size w15 (w15.alloc (.cells #[.int .i64 X.users, .slice a1 a2 a3, .slice a4 a5 a6, .slice a7 a8 a9] 26))) := (Below.refl _ w15).alloc (Nat.le_refl _) _
      have hbx : Hid (Below w14.heap.size w14 (w15.alloc (.cells #[.int .i64 X.users, .slice a1 a2 a3, .slice a4 a5 a6, .slice a7 a8 a9] 26))) := hb15.out.trans (hb16.out.mono hb15.out.size)
      have hY6 := hide' (hY4.out.over hbx.out)
      have KX6 := hide' (KX.out X _ _ _ _ hok hY6.out.tab (hpv.out.below hb16.out))
      rw [hcan] at KX6
      clear hok hcan hpv hb16 hb15 KW KX hWy' q4 hY6
      go_wp2_with fail
      refine KX6.out.mono ?_
      rintro e w17 ⟨rfl, hb17⟩
      have hb7 : Hid (Below w14.heap.size w14 w17) := hbx.out.trans (hb17.mono hbx.out.size)
      clear KX6 hbx hb17
      cases z with
      | true =>
        obtain ⟨e1, e2⟩ := hno'.out rfl
        have hDn : Hid (Yd Wm (.slice o14 n14 c14) (.slice o4 n4 c4) RN KN w17) := by
          rw [e1, e2]
          exact (hE.out.take hb14.out hnew.out).over hb7.out
        clear hno' hyes' e1 e2 hE hnew hb14 hb7 hY4
        go_wp2
        exact ⟨⟨i + 1, o14, n14, c14, o4, n4, c4, by omega, by go_num, rfl, rfl, by rw [hKn, hRn]; exact hDn⟩, by simp [intOf]; omega⟩
      | false =>
        obtain ⟨e1, e2⟩ := hyes'.out rfl
        have hD7 := hide' ((hE.out.over hb14.out).over hb7.out)
        have hfin : Hid (∀ o8 n8 c8 w8, Yd Wm (.slice o3 n3 c3) (.slice o8 n8 c8) RR (KK ++ [i]) w8 → Yd Wm (.slice o3 n3 c3) (.slice o8 n8 c8) RN KN w8) := fun o8 n8 c8 w8 h8 => by rw [e1, e2]; exact h8
        clear hno' hyes' e1 e2 hE hnew hb14 hb7 hY4
        go_wp2_with (at_builtin; refine hD7.out.push rfl (.tmp 75) (.tmp 77) i rfl rfl rfl hKl ?_; intro o18 n18 c18 w18 hD18)
        exact ⟨⟨i + 1, o3, n3, c3, o18, n18, c18, by omega, by go_num, rfl, rfl, by rw [hKn, hRn]; exact hfin.out _ _ _ _ hD18.out⟩, by simp [intOf]; omega⟩
    · obtain rfl : i = P.who.length := by omega
      rw [eB.out] at hE
      have hlK := hide' (RowI.of_owns hE.out.l)
      obtain rfl : n4 = B.length := by
        obtain ⟨_, _, hsh⟩ := own_shp hE.out.l
        injection hsh
      have hlA2 := hide' (hlA.out.below hE.out.be (Nat.le_refl _))
      have hBe := hide' hYs.out.be
      clear hS2 hL2 hR2 eB e10 hYm hYs hE hlA hrA KW KX hRA
      go_wp2
      refine bodyPost_ret (v := .tuple #[.slice o2 A.length c2, .slice o4 B.length c4, .bool true]) (by simp [results, Tryz.results6, go_sem]) rfl ?_
      exact ⟨o2, c2, o4, c4, A, B, true, rfl, hlA2, hlK, hBe, hW⟩
end Go.Proofs.YtcancjbpcppecaaGreatDoor.S
