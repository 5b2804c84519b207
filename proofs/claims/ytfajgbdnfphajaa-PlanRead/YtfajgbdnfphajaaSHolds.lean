/- Holds: is it a plan of the problem? -/
import Derived.Test.YtfajgbdnfphajaaSCheck3
import Derived.Test.YtfajgbdnfphajaaMShr
namespace Go.Proofs.Ytfajgbdnfphajaa.S
open Go.RowKit Go.Shelf
/-- May that user do that step? -/
def okU (P : Pb) (t : Nat) (x : Int) : Bool := isU P x && (mayP P t).testBit x.toNat
def okA (P : Pb) (L : List Int) (j : Nat) : Bool := (List.range j).all fun t => okU P t (L.getD t 0)
theorem okA_succ (P : Pb) {L : List Int} {j : Nat} {x : Int} (h : L[j]? = some x) : okA P L (j + 1) = (okA P L j && okU P j x) := by
  unfold okA
  rw [List.range_succ]
  simp [h]
theorem okA_no (P : Pb) {L : List Int} {j : Nat} {x : Int} (h : L[j]? = some x) (he : okU P j x = false) : okA P L L.length = false := by
  unfold okA
  rw [List.all_eq_false]
  refine ⟨j, List.mem_range.2 (List.getElem?_eq_some_iff.1 h).1, ?_⟩
  simp [h, he]
theorem nat_beq0 (n : Nat) : ((n : Int) == 0) = decide (n = 0) := by
  rw [Bool.eq_iff_iff, beq_iff_eq, decide_eq_true_iff]
  omega
/-- A plan of the problem. -/
def holP (P : Pb) (L : List Int) : Bool := decide (chkN P = 0) && decide (L.length = P.who.length) && okA P L L.length && decide ((broken P.rules L).length = 0)
theorem mayP_lt {P : Pb} (hw : ∀ z ∈ P.who, z < 18446744073709551616) (hx : ∀ x ∈ P.fixed, x = -1 ∨ (0 ≤ x ∧ x < 64)) (t : Nat) : mayP P t < 18446744073709551616 := by
  unfold mayP
  split
  · cases e : P.who[t]? with
    | none => simp [List.getD_eq_getElem?_getD, e]
    | some z => simp [List.getD_eq_getElem?_getD, e]; exact hw z (List.mem_of_getElem? e)
  · rename_i hne
    have : (P.fixed.getD t 0).toNat < 64 := by
      cases e : P.fixed[t]? with
      | none => simp [List.getD_eq_getElem?_getD, e]
      | some x =>
        have h1 := hx x (List.mem_of_getElem? e)
        simp [List.getD_eq_getElem?_getD, e] at hne ⊢
        omega
    exact Nat.pow_lt_pow_right (a := 2) (n := 64) (by decide) this
theorem chkN_zero {P : Pb} (h : chkN P = 0) : P.who.length ≤ 12 ∧ 0 ≤ P.users ∧ P.users ≤ 64 ∧ P.rules.length ≤ 32 ∧ fixB P = true ∧ whoB P = true ∧ rulB P = true := by
  unfold chkN at h
  split at h
  · cases h
  · rename_i h1
    split at h
    · cases h
    · rename_i h2
      refine ⟨by omega, by omega, by omega, by omega, ?_, ?_, ?_⟩
      · cases e : fixB P
        · exact absurd (.inr (.inl e)) h2
        · rfl
      · cases e : whoB P
        · exact absurd (.inr (.inr (.inl e))) h2
        · rfl
      · cases e : rulB P
        · exact absurd (.inr (.inr (.inr e))) h2
        · rfl
theorem fixB_of {P : Pb} (h : fixB P = true) (hU : P.users ≤ 64) : P.fixed.length = P.who.length ∧ ∀ x ∈ P.fixed, x = -1 ∨ (0 ≤ x ∧ x < 64) := by
  unfold fixB at h
  rw [Bool.and_eq_true] at h
  refine ⟨of_decide_eq_true h.2, fun x hx => ?_⟩
  have := List.all_eq_true.1 h.1 x hx
  rw [Bool.or_eq_true] at this
  rcases this with q | q
  · exact .inl (of_decide_eq_true q)
  · unfold isU at q
    rw [Bool.and_eq_true] at q
    have h1 := of_decide_eq_true q.1
    have h2 := of_decide_eq_true q.2
    exact .inr ⟨h1, by omega⟩
set_option maxRecDepth 100000 in
set_option maxHeartbeats 4000000 in
theorem holdsPF (P : Pb) (wv fv rv : Value) (L : List Int) (lv : Value) (w : World) (h : PbV w P wv fv rv) (hL : RowI w lv L) (_ : L.length ≤ 1000) (hlw : P.who.length ≤ 1000) (hlf : P.fixed.length ≤ 1000) (hlr : P.rules.length ≤ 1000) (hm : ∀ r ∈ P.rules, r.steps.length ≤ 1000) (hw : ∀ z ∈ P.who, z < 18446744073709551616) :
    Calls Try.prog 15 #[pbV P wv fv rv, lv] w fun e w' => e = .returned (.bool (holP P L)) ∧ Below w.heap.size w w' := by
  have hs := h.shape
  have hB0 : Hid (Below w.heap.size w (w.alloc (.cells #[.int .i64 P.users, wv, fv, rv] 27))) := (Below.refl _ w).alloc (Nat.le_refl _) _
  have hb0 : Hid (PbB (w.alloc (.cells #[.int .i64 P.users, wv, fv, rv] 27)) w.heap.size P wv fv rv) := heap_new w _
  have h' := hide' h
  have hL' := hide' hL
  have K1 : Hid (∀ V, Below w.heap.size w V → Calls Try.prog 25 #[pbV P wv fv rv] V fun e w' => e = .returned (.int .i64 (chkN P : Int)) ∧ Below V.heap.size V w') := fun V hV => checkPF P wv fv rv V (h.below hV) hlw hlf hlr hm hw
  have K2 : Hid (∀ V x, Calls Try.prog 26 #[pbV P wv fv rv, .int .i64 x] V fun e w' => e = .returned (.bool (isU P x)) ∧ Below V.heap.size V w') := fun V x => isUserF P wv fv rv x V hs
  have K4 : Hid (∀ V, Below w.heap.size w V → Calls Try.prog 28 #[rv, lv] V fun e w' => ∃ oa cap, e = .returned (.slice oa (broken P.rules L).length cap) ∧ Below V.heap.size V w') := fun V hV => by
    refine (brokenF P.rules rv lv L V (h.rules.below hV (Nat.le_refl _)) (hL.below hV (Nat.le_refl _)) hlr hm).mono ?_
    rintro e w' ⟨v', rfl, ho, hb⟩
    obtain ⟨oa, cap, rfl⟩ := own_shp ho
    exact ⟨oa, cap, rfl, hb⟩
  obtain ⟨ow, cw, of, cf, or, cr, rfl, rfl, rfl⟩ := hs
  obtain ⟨ol, cl, rfl, _, hcl⟩ := hL
  have hcl' := hide' hcl
  clear hcl h
  by_cases hC : chkN P = 0
  case neg =>
    have hfin : holP P L = false := by unfold holP; rw [decide_eq_false hC]; rfl
    rw [hfin]
    have hne : (((chkN P : Nat) : Int) != 0) = true := by rw [bne_iff_ne]; omega
    generalize chkN P = c at *
    unfold pbV at K1 ⊢
    clear K2 K4 hC hfin
    go_enter Try.func15, Try.ntmps15
    go_wp2_with fail
    refine (K1.out _ hB0.out).mono ?_
    rintro e w1 ⟨rfl, hb1⟩
    have hB1 : Hid (Below w.heap.size w w1) := hB0.out.trans (hb1.mono hB0.out.size)
    clear hb1 K1
    go_wp2
    go_ret
    exact ⟨rfl, hB1.out⟩
  obtain ⟨g12, g0, g64, g32, gF, gW, gR⟩ := chkN_zero hC
  obtain ⟨gl, gx⟩ := fixB_of gF g64
  have K3 : Hid (∀ V, Below w.heap.size w V → ∀ t : Nat, t < P.who.length → Calls Try.prog 27 #[pbV P (.slice ow P.who.length cw) (.slice of P.fixed.length cf) (.slice or P.rules.length cr), .int .i64 (t : Int)] V fun e w' => e = .returned (.int .u64 (mayP P t : Int)) ∧ Below V.heap.size V w') := fun V hV t ht => mayF P _ _ _ t V (h'.out.below hV) ht (by omega) gx
  have hmb : Hid (∀ t, mayP P t < 18446744073709551616) := fun t => mayP_lt hw gx t
  have hhol : Hid (L.length = P.who.length → holP P L = (okA P L L.length && decide ((broken P.rules L).length = 0))) := fun hl => by unfold holP; rw [decide_eq_true hC, decide_eq_true hl]; rfl
  have hhn : Hid (L.length ≠ P.who.length → holP P L = false) := fun hl => by unfold holP; rw [decide_eq_true hC, decide_eq_false hl]; rfl
  have hiu : Hid (∀ x, isU P x = true → 0 ≤ x ∧ x < 64) := fun x hx => by
    unfold isU at hx
    rw [Bool.and_eq_true] at hx
    have h1 := of_decide_eq_true hx.1
    have h2 := of_decide_eq_true hx.2
    omega
  rw [hC] at K1
  clear hw gx gF gW gR hm h' hL' hC g64 g0 g32 gl
  unfold pbV at K1 K2 K3 ⊢
  by_cases hl : L.length = P.who.length
  case neg =>
    rw [hhn.out hl]
    have hl' : (L.length : Int) ≠ (P.who.length : Int) := by omega
    clear K2 K3 K4 hhol hhn hcl' hl
    go_enter Try.func15, Try.ntmps15
    go_wp2_with fail
    refine (K1.out _ hB0.out).mono ?_
    rintro e w1 ⟨rfl, hb1⟩
    have hB1 : Hid (Below w.heap.size w w1) := hB0.out.trans (hb1.mono hB0.out.size)
    have hp := hide' (hb0.out.below hb1)
    have q1 := hp.out.c1
    clear hb1 K1
    go_wp2
    go_ret
    exact ⟨rfl, hB1.out⟩
  have hno : Hid (∀ j x, L[j]? = some x → okU P j x = false → okA P L P.who.length = false) := fun j x h1 h2 => hl ▸ okA_no P h1 h2
  have hgl : Hid (∀ j, j < P.who.length → ∃ x, L[j]? = some x) := fun j hj => ⟨_, List.getElem?_eq_getElem (hl ▸ hj)⟩
  rw [hhol.out hl]
  rw [hl] at K4 ⊢
  clear hhol hhn hl
  go_enter Try.func15, Try.ntmps15
  go_wp2_with fail
  refine (K1.out _ hB0.out).mono ?_
  rintro e w1 ⟨rfl, hb1⟩
  have hB1 : Hid (Below w.heap.size w w1) := hB0.out.trans (hb1.mono hB0.out.size)
  have hp := hide' (hb0.out.below hb1)
  have q1 := hp.out.c1
  clear hb1 K1 hB0 hb0
  go_wp2
  go_loopw [4, 20] (fun _ p wr => ∃ j : Nat, j ≤ P.who.length ∧ p = .int .i64 (j : Int) ∧ Hid (okA P L j = true) ∧ Hid (Below w.heap.size w wr) ∧ Hid (PbB wr w.heap.size P (.slice ow P.who.length cw) (.slice of P.fixed.length cf) (.slice or P.rules.length cr))) (fun _ p _ => ((P.who.length : Int) - intOf p).toNat)
  case atStart => exact ⟨0, Nat.zero_le _, rfl, rfl, hB1, hp⟩
  case round =>
    clear hB1 hp q1
    obtain ⟨j, hj, rfl, hE, hB, hb⟩ := hrel
    by_cases hlt : j < P.who.length
    · have hlt' : (j : Int) < (P.who.length : Int) := by omega
      obtain ⟨x, hx⟩ := hgl.out j hlt
      obtain ⟨g, o, rfl, d1⟩ := hcl'.out j x hx
      have d2 := M.cell_over d1 hB.out
      have hsn := hide' (okA_succ P hx)
      have hn := hide' (hno.out j x hx)
      have q0 := hb.out.c0
      have q1 := hb.out.c1
      have q2 := hb.out.c2
      have q3 := hb.out.c3
      clear d1 hx hno hgl
      cases hu : isU P x with
      | false =>
        have hE2 := hide' (hn.out (by unfold okU; rw [hu]; rfl))
        have KU := hide' (K2.out wr x)
        rw [hu] at KU
        clear hn hsn hE K3 K4 hu
        go_wp2_with fail
        refine KU.out.mono ?_
        rintro e w5 ⟨rfl, hb5⟩
        have hB5 : Hid (Below w.heap.size w w5) := hB.out.trans (hb5.mono hB.out.size)
        clear hb5 hB KU
        go_wp2
        go_ret
        exact ⟨ret_bool (by rw [hE2.out]; rfl), hB5.out⟩
      | true =>
        obtain ⟨hx0, hx64⟩ := hiu.out x hu
        obtain ⟨y, rfl⟩ : ∃ y : Nat, x = (y : Int) := ⟨x.toNat, by omega⟩
        have hy64 : y < 64 := by omega
        have hneg : ¬ ((y : Int) < 0) := by omega
        have KU := hide' (K2.out wr (y : Int))
        rw [hu] at KU
        have hok : Hid (okU P j (y : Int) = (mayP P j).testBit y) := by show _ = _; unfold okU; rw [hu, Int.toNat_natCast]; rfl
        have hmj := hmb.out j
        cases hbit : (mayP P j).testBit y with
        | true =>
          have hsb := M.shr_bitT hmj hbit
          have hE2 : Hid (okA P L (j + 1) = true) := by show _ = _; rw [hsn.out, hE.out, hok.out, hbit]; rfl
          have KM := hide' (fun V hV => K3.out V hV j hlt)
          generalize mayP P j = m at *
          clear hn hsn hE hu hok hbit hx0 hx64
          go_wp2_with fail
          refine KU.out.mono ?_
          rintro e w5 ⟨rfl, hb5⟩
          have hB5 : Hid (Below w.heap.size w w5) := hB.out.trans (hb5.mono hB.out.size)
          have hp5 := hide' (hb.out.below hb5)
          have r0 := hp5.out.c0
          have r1 := hp5.out.c1
          have r2 := hp5.out.c2
          have r3 := hp5.out.c3
          clear hb5 hB hb KU q0 q1 q2 q3 d2
          go_wp2_with fail
          refine (KM.out _ hB5.out).mono ?_
          rintro e w6 ⟨rfl, hb6⟩
          have hB6 : Hid (Below w.heap.size w w6) := hB5.out.trans (hb6.mono hB5.out.size)
          have hp6 := hide' (hp5.out.below hb6)
          clear hb6 hB5 hp5 KM r0 r1 r2 r3
          go_wp2
          exact ⟨⟨j + 1, by omega, by go_num, hE2, hB6, hp6⟩, by simp [intOf]; omega⟩
        | false =>
          have hsb := M.shr_bitF hmj hbit
          have hE2 := hide' (hn.out (by rw [hok.out, hbit]))
          have KM := hide' (fun V hV => K3.out V hV j hlt)
          generalize mayP P j = m at *
          clear hn hsn hE hu hok hbit hx0 hx64
          go_wp2_with fail
          refine KU.out.mono ?_
          rintro e w5 ⟨rfl, hb5⟩
          have hB5 : Hid (Below w.heap.size w w5) := hB.out.trans (hb5.mono hB.out.size)
          have hp5 := hide' (hb.out.below hb5)
          have r0 := hp5.out.c0
          have r1 := hp5.out.c1
          have r2 := hp5.out.c2
          have r3 := hp5.out.c3
          clear hb5 hB hb KU q0 q1 q2 q3 d2
          go_wp2_with fail
          refine (KM.out _ hB5.out).mono ?_
          rintro e w6 ⟨rfl, hb6⟩
          have hB6 : Hid (Below w.heap.size w w6) := hB5.out.trans (hb6.mono hB5.out.size)
          clear hb6 hB5 hp5 KM r0 r1 r2 r3
          go_wp2
          go_ret
          exact ⟨ret_bool (by rw [hE2.out]; rfl), hB6.out⟩
    · obtain rfl : j = P.who.length := by omega
      have q3 := hb.out.c3
      clear hcl' K2 K3 hno hgl
      generalize hnb : (broken P.rules L).length = nb at K4
      have hnb' := hide' hnb
      clear hnb
      go_wp2_with fail
      refine (K4.out _ hB.out).mono ?_
      rintro e w5 ⟨oa, cap, rfl, hb5⟩
      have hB5 : Hid (Below w.heap.size w w5) := hB.out.trans (hb5.mono hB.out.size)
      clear hb5 hB K4 q3
      go_wp2
      go_ret
      exact ⟨ret_bool (by rw [hE.out, hnb'.out, Bool.true_and]; exact nat_beq0 nb), hB5.out⟩
end Go.Proofs.Ytfajgbdnfphajaa.S
