/- The document's Cut and Drop. -/
import Derived.Test.YtegpgjiccpglbaaDoorYRef2
namespace Go.Proofs.YtegpgjiccpglbaaDoor
open Go.RowKit
theorem pair_dec (a b c d : Int) (w : World) : (Op.equalIn 10000 42 (.agg #[.int .i64 a, .int .i64 b]) (.agg #[.int .i64 c, .int .i64 d])).run Tryd.prog w = .ok (!nep c d (a, b)) w := by
  have u3 := Tryd.underlying3
  have a3 := Tryd.isAgg3
  have z3 := Tryd.sizeOf3
  unfold nep
  rw [show (10000 : Nat) = 9999 + 1 from rfl, Op.equalIn]
  simp only [Sem.run_bind, run_underlying Tryd.underlying42, Result.andThen_ok]
  simp only [Std.Legacy.Range.forIn_eq_forIn_range', Std.Legacy.Range.size, Nat.sub_zero, Nat.add_sub_cancel, Nat.div_one, List.range'_succ, List.range'_zero, List.forIn_cons, List.forIn_nil]
  by_cases h1 : a = c
  · subst h1
    by_cases h2 : b = d
    · subst h2
      have e2 : (b == b) = true := by simp
      go_simp
    · have e2 : (b == d) = false := by simpa using h2
      go_simp
  · have e1 : (a == c) = false := by simpa using h1
    go_simp
theorem take_filter {D : List (Int × Int)} {c : Nat} {p : Int × Int} (q : Int × Int → Bool) (h : D[c]? = some p) : (D.take (c + 1)).filter q = (D.take c).filter q ++ (if q p then [p] else []) := by
  rw [List.take_add_one, h, List.filter_append]
  cases hq : q p <;> simp [hq]
/-- A new row taken over. -/
theorem nx_store {w W : World} {r : Nat} {v v' : Value} (hB : Below w.heap.size w W) (hge : ∀ g, v'.ownBlock = some g → w.heap.size ≤ g) : Nx r v v' w (W.setCell ⟨r, 0, none⟩ v') :=
  ⟨(Fr.of_below hB).trans (Fr.of_grown (S := fun k => k = r) (grown_set W r 0 _) (fun g e => by cases e; rfl)) (fun _ _ e => .inl e), fun g e => .inr (hge g e)⟩
/-- The row behind Cut. -/
def cuD (J : Nat → Nat) (D : List (Int × Int)) (x y : Int) : List (Int × Int) := if hasJ J x y then D.filter (nep x y) else D
section
variable {w : World} {r : Nat} {v : Value} {D : List (Int × Int)} {J : Nat → Nat}
theorem cuD_sm (hw : Wf J) (hs : Sm J D) (x y : Int) : Sm (cuJ J x y) (cuD J D x y) := by
  unfold cuJ cuD
  cases h : hasJ J x y with
  | false => simpa using hs
  | true =>
    have hp : okA x = true ∧ okA y = true := by
      unfold hasJ at h
      simp only [Bool.and_eq_true] at h
      exact h.1
    obtain ⟨i, hi, rfl⟩ := okA_nat hp.1
    obtain ⟨j, hj, rfl⟩ := okA_nat hp.2
    simp only [if_true, Int.toNat_natCast]
    exact hs.cut hw hi hj
set_option maxRecDepth 100000 in
set_option maxHeartbeats 1000000 in
theorem cutRR (h : RfAt w r v 0 D) (hw : Wf J) (hs : Sm J D) (x y : Int) :
    Calls Tryd.prog 21 #[.pointer (some ⟨r, 0, none⟩), .int .i64 x, .int .i64 y] w fun e w' => e = .returned (.int .i64 (cuC J x y)) ∧ ∃ v', RfAt w' r v' 0 (cuD J D x y) ∧ Nx r v v' w w' := by
  have hsame : hasJ J x y = false → cuD J D x y = D := fun e => by unfold cuD; rw [e, if_neg (by simp)]
  cases hx : okA x with
  | false =>
    have e : cuC J x y = 1 := by simp [cuC, hx]
    rw [hsame (by simp [hasJ, hx]), e]
    clear hsame e
    go_enter Tryd.func21, Tryd.ntmps21
    go_wp2_with (go_at_call 35; refine (placeR _ _).mono ?_; rintro e w1 ⟨rfl, rfl⟩)
    go_ret
    exact ⟨rfl, v, h, Nx.refl _ _ _⟩
  | true =>
  cases hyy : okA y with
  | false =>
    have e : cuC J x y = 1 := by simp [cuC, hyy]
    rw [hsame (by simp [hasJ, hyy]), e]
    clear hsame e
    go_enter Tryd.func21, Tryd.ntmps21
    go_wp2_with (go_at_call 35; refine (placeR _ _).mono ?_; rintro e w1 ⟨rfl, rfl⟩)
    go_ret
    exact ⟨rfl, v, h, Nx.refl _ _ _⟩
  | true =>
  have KH := hasR h hs.len x y
  rw [hs.has hw] at KH
  cases hh : hasJ J x y with
  | false =>
    have e : cuC J x y = 26 := by simp [cuC, hx, hyy, hh]
    rw [hsame hh, e]
    rw [hh] at KH
    have KH' := hide' KH
    clear hsame e KH
    go_enter Tryd.func21, Tryd.ntmps21
    go_wp2_with (first | (go_at_call 35; refine (placeR _ _).mono ?_; rintro e w1 ⟨rfl, rfl⟩) | (go_at_call 27; refine KH'.out.mono ?_; rintro e w1 ⟨rfl, rfl⟩))
    go_ret
    exact ⟨rfl, v, h, Nx.refl _ _ _⟩
  | true =>
    rw [hh] at KH
    have KH' := hide' KH
    have e : cuC J x y = 0 := by simp [cuC, hx, hyy, hh]
    have e2 : cuD J D x y = D.filter (nep x y) := by unfold cuD; rw [hh, if_pos rfl]
    rw [e, e2]
    obtain ⟨i0, hi0, hz0, hz1, hz2⟩ := info_q infoP
    have hlen := hs.len
    obtain ⟨oa, cap, rfl⟩ := h.shape
    have H := hide' h
    have hpc : Hid (∀ V, Below w.heap.size w V → ∀ (i : Nat) (p : Int × Int), D[i]? = some p → ∃ g o, oa = some ⟨g, o, none⟩ ∧ V.cell? ⟨g, o + i * 2, none⟩ = some (.int .i64 p.1) ∧ V.cell? ⟨g, o + i * 2 + 1, none⟩ = some (.int .i64 p.2)) := fun V hV i p hp => by
      obtain ⟨oa', cap', e, _, hh⟩ := (h.over hV).pairs
      cases e
      exact hh i p hp
    clear hsame e e2 KH h hs hw
    generalize hm : D.length = m at *
    have hm' := hide' hm
    clear hm
    have c0 := H.out.cell
    go_enter Tryd.func21, Tryd.ntmps21
    go_wp2_with (first | (go_at_call 35; refine (placeR _ _).mono ?_; rintro e w1 ⟨rfl, hw1⟩; have hw2 := hw1.symm; subst hw2; clear hw1) | (go_at_call 27; refine KH'.out.mono ?_; rintro e w1 ⟨rfl, hw1⟩; have hw2 := hw1.symm; subst hw2; clear hw1))
    go_loopw [7, 8] (fun v k wr => ∃ c : Nat, c ≤ m ∧ k = .int .i64 c ∧ Hid (wr.ownsRow w.heap.size 42 2 v ((D.take c).filter (nep x y)).length (cellsP ((D.take c).filter (nep x y)))) ∧ Below w.heap.size w wr) (fun _ k _ => ((m : Int) - intOf k).toNat)
    case atStart => exact ⟨0, Nat.zero_le _, rfl, World.ownsRow_nil _ _ _ _, Below.refl _ _⟩
    case round =>
      clear c0
      obtain ⟨c, hc, rfl, hrow, hB⟩ := hrel
      obtain ⟨oa2, cap2, hv2⟩ := owns_shape hrow.out
      subst hv2
      have c0 := (H.out.over hB).cell
      have hsz := hB.size
      by_cases hlt : c < m
      · obtain ⟨p, hp⟩ : ∃ p, D[c]? = some p := ⟨_, List.getElem?_eq_getElem (by have := hm'.out; omega)⟩
        obtain ⟨g, o, rfl, c1, c2⟩ := hpc.out wr hB c p hp
        have htk := hide' (take_filter (nep x y) hp)
        have hfl : ((D.take c).filter (nep x y)).length ≤ 4096 := Nat.le_trans (List.length_filter_le _ _) (by have := hm'.out; rw [List.length_take]; omega)
        obtain ⟨px, py⟩ := p
        simp only [] at c1 c2
        have hpd := fun W => pair_dec px py x y W
        clear hp hpc
        cases hq : nep x y (px, py) with
        | false =>
          rw [hq, if_neg (by simp), List.append_nil] at htk
          rw [hq] at hpd
          have hrow2 : Hid (wr.ownsRow w.heap.size 42 2 (.slice oa2 ((D.take c).filter (nep x y)).length cap2) ((D.take (c + 1)).filter (nep x y)).length (cellsP ((D.take (c + 1)).filter (nep x y)))) := by
            show World.ownsRow _ _ _ _ _ _ _
            rw [htk.out]; exact hrow.out
          clear hrow hq htk
          generalize ((D.take c).filter (nep x y)).length = ml at *
          go_wp2
          exact ⟨⟨c + 1, by omega, by go_num, hrow2, hB⟩, by simp [intOf]; omega⟩
        | true =>
          rw [hq, if_pos rfl] at htk
          rw [hq] at hpd
          clear hq
          generalize hM : (D.take c).filter (nep x y) = M at *
          clear hM
          generalize hml : M.length = ml at *
          have hml' := hide' hml
          clear hml
          go_wp2_with (at_builtin; go_loud (refine wpList_append_lies _ rfl _ _ 29 rfl w.heap.size 42 i0 (.agg #[.int .i64 0, .int .i64 0]) 2 16 Tryd.underlying29 hi0 hz0 hz1 hz2 rfl (by decide) (.slice oa2 ml cap2) ml (cellsP M) rfl (hrow.out.alloc _) ⟨wr.heap.size, 0, none⟩ 1 1 [.int .i64 px, .int .i64 py] rfl rfl (cell_two_new _ _ _ _) (by simp [Value.oneCell']) (by decide) (by unfold maxLen; omega) (by omega) (by simp; omega) _ rfl ?_); intro g4 cap4 w4 hown4 hgrow4 hat4 hlt4)
          have hge := owns_ge hrow.out
          have hB4 : Below w.heap.size w w4 := (hB.alloc hsz _).grown hgrow4 (by simp; omega) hge
          have hown5 : Hid (w4.ownsRow w.heap.size 42 2 (.slice (some ⟨g4, 0, none⟩) (ml + 1) cap4) ((D.take (c + 1)).filter (nep x y)).length (cellsP ((D.take (c + 1)).filter (nep x y)))) := by
            show World.ownsRow _ _ _ _ _ _ _
            rw [htk.out, cellsP_snoc, List.length_append, hml'.out]; exact hown4
          clear hown4 hgrow4 hat4 hrow
          exact ⟨⟨c + 1, by omega, by go_num, hown5, hB4⟩, by simp [intOf]; omega⟩
      · obtain rfl : c = m := by omega
        have f0 := (H.out.over hB).frz
        have hbx := hide' (H.out.over hB).bx
        have hfull : D.take c = D := by rw [← hm'.out, List.take_length]
        have hrow2 := hrow.out
        rw [hfull] at hrow2
        have hl2 : ((D.take c).filter (nep x y)).length = (D.filter (nep x y)).length := by rw [hfull]
        have hrow3 := hide' hrow2
        have hl2' := hide' hl2
        have hge := hide' (owns_ge hrow2)
        clear hrow2 hrow hpc hfull hl2
        go_wp2
        rw [hl2'.out]
        go_ret
        exact ⟨rfl, _, RfAt.store hbx.out (owns_base hrow3.out (Nat.zero_le _)), nx_store hB hge.out⟩
set_option maxRecDepth 100000 in
set_option maxHeartbeats 1000000 in
theorem dropRR (h : RfAt w r v 0 D) (hw : Wf J) (hs : Sm J D) (x : Int) :
    Calls Tryd.prog 22 #[.pointer (some ⟨r, 0, none⟩), .int .i64 x] w fun e w' => e = .returned (.int .i64 (drCI J x : Int)) ∧ ∃ v', RfAt w' r v' 0 (D.filter (fun p => !tch x p)) ∧ Nx r v v' w w' := by
  obtain ⟨i0, hi0, hz0, hz1, hz2⟩ := info_q infoP
  have hlen := hs.len
  have hgn := hide' (hs.gone hw x)
  obtain ⟨oa, cap, rfl⟩ := h.shape
  have H := hide' h
  have hpc : Hid (∀ V, Below w.heap.size w V → ∀ (i : Nat) (p : Int × Int), D[i]? = some p → ∃ g o, oa = some ⟨g, o, none⟩ ∧ V.cell? ⟨g, o + i * 2, none⟩ = some (.int .i64 p.1) ∧ V.cell? ⟨g, o + i * 2 + 1, none⟩ = some (.int .i64 p.2)) := fun V hV i p hp => by
    obtain ⟨oa', cap', e, _, hh⟩ := (h.over hV).pairs
    cases e
    exact hh i p hp
  clear h hs hw
  generalize hm : D.length = m at *
  have hm' := hide' hm
  clear hm
  generalize hq : (fun p => !tch x p) = q at *
  have hqv : ∀ p, q p = !tch x p := fun p => by rw [← hq]
  have hqv' := hide' hqv
  clear hqv hq
  go_enter Tryd.func22, Tryd.ntmps22
  go_wp2
  go_loopw [5, 6] (fun v k wr => ∃ c : Nat, c ≤ m ∧ k = .int .i64 c ∧ Hid (wr.ownsRow w.heap.size 42 2 v ((D.take c).filter q).length (cellsP ((D.take c).filter q))) ∧ Below w.heap.size w wr) (fun _ k _ => ((m : Int) - intOf k).toNat)
  case atStart => exact ⟨0, Nat.zero_le _, rfl, World.ownsRow_nil _ _ _ _, Below.refl _ _⟩
  case round =>
    obtain ⟨c, hc, rfl, hrow, hB⟩ := hrel
    obtain ⟨oa2, cap2, hv2⟩ := owns_shape hrow.out
    subst hv2
    have c0 := (H.out.over hB).cell
    have hsz := hB.size
    by_cases hlt : c < m
    · obtain ⟨p, hp⟩ : ∃ p, D[c]? = some p := ⟨_, List.getElem?_eq_getElem (by have := hm'.out; omega)⟩
      obtain ⟨g, o, rfl, c1, c2⟩ := hpc.out wr hB c p hp
      have htk := hide' (take_filter q hp)
      have hfl : ((D.take c).filter q).length ≤ 4096 := Nat.le_trans (List.length_filter_le _ _) (by have := hm'.out; rw [List.length_take]; omega)
      have hqp := hqv'.out p
      obtain ⟨px, py⟩ := p
      simp only [] at c1 c2
      clear hp hpc
      cases ht : tch x (px, py) with
      | true =>
        rw [hqp, ht] at htk
        rw [if_neg (by simp), List.append_nil] at htk
        have hrow2 : Hid (wr.ownsRow w.heap.size 42 2 (.slice oa2 ((D.take c).filter q).length cap2) ((D.take (c + 1)).filter q).length (cellsP ((D.take (c + 1)).filter q))) := by
          show World.ownsRow _ _ _ _ _ _ _
          rw [htk.out]; exact hrow.out
        clear hrow htk hqp
        unfold tch at ht
        generalize ((D.take c).filter q).length = ml at *
        by_cases e1 : px = x
        · have f1 : (px != x) = false := by simpa using e1
          clear ht e1
          go_wp2
          exact ⟨⟨c + 1, by omega, by go_num, hrow2, hB⟩, by simp [intOf]; omega⟩
        · have f1 : (px != x) = true := by simpa using e1
          have f2 : (py != x) = false := by simpa [e1] using ht
          clear ht e1
          go_wp2
          exact ⟨⟨c + 1, by omega, by go_num, hrow2, hB⟩, by simp [intOf]; omega⟩
      | false =>
        rw [hqp, ht] at htk
        rw [if_pos (by simp)] at htk
        unfold tch at ht
        have f1 : (px != x) = true := by simp at ht; simpa using ht.1
        have f2 : (py != x) = true := by simp at ht; simpa using ht.2
        clear ht hqp
        generalize hM : (D.take c).filter q = M at *
        clear hM
        generalize hml : M.length = ml at *
        have hml' := hide' hml
        clear hml
        go_wp2_with (at_builtin; go_loud (refine wpList_append_lies _ rfl _ _ 29 rfl w.heap.size 42 i0 (.agg #[.int .i64 0, .int .i64 0]) 2 16 Tryd.underlying29 hi0 hz0 hz1 hz2 rfl (by decide) (.slice oa2 ml cap2) ml (cellsP M) rfl (hrow.out.alloc _) ⟨wr.heap.size, 0, none⟩ 1 1 [.int .i64 px, .int .i64 py] rfl rfl (cell_two_new _ _ _ _) (by simp [Value.oneCell']) (by decide) (by unfold maxLen; omega) (by omega) (by simp; omega) _ rfl ?_); intro g4 cap4 w4 hown4 hgrow4 hat4 hlt4)
        have hge := owns_ge hrow.out
        have hB4 : Below w.heap.size w w4 := (hB.alloc hsz _).grown hgrow4 (by simp; omega) hge
        have hown5 : Hid (w4.ownsRow w.heap.size 42 2 (.slice (some ⟨g4, 0, none⟩) (ml + 1) cap4) ((D.take (c + 1)).filter q).length (cellsP ((D.take (c + 1)).filter q))) := by
          show World.ownsRow _ _ _ _ _ _ _
          rw [htk.out, cellsP_snoc, List.length_append, hml'.out]; exact hown4
        clear hown4 hgrow4 hat4 hrow
        exact ⟨⟨c + 1, by omega, by go_num, hown5, hB4⟩, by simp [intOf]; omega⟩
    · obtain rfl : c = m := by omega
      have f0 := (H.out.over hB).frz
      have hbx := hide' (H.out.over hB).bx
      have hfull : D.take c = D := by rw [← hm'.out, List.take_length]
      rw [hfull] at hrow
      have hfl : (D.filter q).length ≤ c := Nat.le_trans (List.length_filter_le _ _) (by have := hm'.out; omega)
      have hge := hide' (owns_ge hrow.out)
      have hsub : IntKind.i64.wrap ((c : Int) - ((D.filter q).length : Int)) = (drCI J x : Int) := by
        have := hgn.out
        simp only [IntKind.wrap, IntKind.bits, IntKind.signed]; simp; omega
      have hsub2 : ((c : Int) - ((D.filter q).length : Int)) = (drCI J x : Int) := by
        have := hgn.out
        omega
      have hl2' : Hid (((D.take c).filter q).length = (D.filter q).length) := by show _ = _; rw [hfull]
      rw [hl2'.out]
      clear hpc hfull hgn hl2'
      generalize hml : (D.filter q).length = ml at *
      have hml' := hide' hml
      clear hml
      go_wp2
      go_ret
      exact ⟨rfl, _, RfAt.store hbx.out (by rw [hml'.out]; exact owns_base hrow.out (Nat.zero_le _)), nx_store hB hge.out⟩
end
end Go.Proofs.YtegpgjiccpglbaaDoor
