/- hardy: the first set, told by lists: plain. -/
import Derived.Test.YtmbdnhgmpmnhmaaGreatDoorJ09
import Derived.Test.YtmbdnhgmpmnhmaaGreatDoorJ26
import Derived.Test.YtmbdnhgmpmnhmaaGreatDoorJ31
namespace Go.Proofs.YtmbdnhgmpmnhmaaGreatDoor.S
open Go.RowKit Go.Shelf
noncomputable def graP (P : Pb) : Int := if chkN P = 0 then ((List.range 4).findSome? (fun m => if (wekP P m 0 0).isSome then some ((m : Int) - 1) else none)).getD 3 else -1
def kkN : Nat → Nat
  | 0 => 0
  | j + 1 => kkN j + 64 ^ j
theorem kkN_le : ∀ j, j < 4 → kkN j ≤ 5000 := by decide
noncomputable def weaP (P : Pb) (z : Int) : Option Nat := if chkN P = 0 ∧ 0 ≤ z ∧ z ≤ 3 then wekP P z.toNat 0 0 else none
/-- What Weak answers. -/
def WeP (w : World) (r : Option Nat) (e : Ending) (w' : World) : Prop :=
  ∃ v, e = .returned (.tuple #[v, .bool r.isSome]) ∧ Hid (w'.ownsRow w.heap.size 3 1 v (M.nums (r.getD 0)).length (M.intsOf (M.nums (r.getD 0)))) ∧ Hid (Below w.heap.size w w')
set_option maxRecDepth 100000 in
set_option maxHeartbeats 2000000 in
theorem gradeF (P : Pb) (wv fv rv : Value) (w : World) (h : PbV w P wv fv rv) (hk : Pok P) (hT : M.Tab w) :
    Calls Tryz.prog 17 #[pbV P wv fv rv] w fun e w' => e = .returned (.int .i64 (graP P)) ∧ Below w.heap.size w w' := by
  have hB1 : Hid (Below w.heap.size w (w.alloc (.cells #[.int .i64 P.users, wv, fv, rv] 26))) := (Below.refl _ _).alloc (Nat.le_refl _) _
  have hb1 : Hid (PbB (w.alloc (.cells #[.int .i64 P.users, wv, fv, rv] 26)) w.heap.size P wv fv rv) := heap_new w _
  have p0 := hb1.out.c0
  have p1 := hb1.out.c1
  have p2 := hb1.out.c2
  have p3 := hb1.out.c3
  have KC := hide' (checkPF P wv fv rv _ (h.below hB1.out) hk.w hk.f hk.r hk.s hk.b)
  have KN : Hid (chkN P = 0 → ∀ V, Below w.heap.size w V → Calls Tryz.prog 25 #[.agg #[.int .i64 P.users, wv, fv, rv]] V (NtP V P)) := fun hC V hV => newTF P wv fv rv V (h.below hV) hk hC (hT.over hV)
  have hk' := hide' hk
  unfold pbV at KC ⊢
  clear h hk hT
  by_cases hC : chkN P = 0
  · rw [hC] at KC
    have KN2 := hide' (KN.out hC)
    have hCh := hide' hC
    clear KN hC
    go_enter Tryz.func17, Tryz.ntmps17
    go_upto_region 1 with fail
    generalize w.alloc (.cells #[.int .i64 P.users, wv, fv, rv] 26) = w1 at *
    go_wp2_with fail
    refine KC.out.mono ?_
    rintro e w2 ⟨rfl, hb2⟩
    have hB2 : Hid (Below w.heap.size w w2) := hB1.out.trans (hb2.mono hB1.out.size)
    have hb3 := hide' (hb1.out.below hb2)
    have p0 := hb3.out.c0
    have p1 := hb3.out.c1
    have p2 := hb3.out.c2
    have p3 := hb3.out.c3
    have KN3 := hide' (KN2.out w2 hB2.out)
    clear KC KN2 hb2 hb1
    go_wp2_with fail
    refine KN3.out.mono ?_
    rintro e w3 ⟨O, V0, gs, wv', fv', rv', hO, rfl, hTr, hB3, hgs, hBV⟩
    have hT3 : Hid (Tk V0 gs (reP P O) wv' fv' rv' (kkN 0) (.slice none 0 0) w3) := ⟨_, _, _, _, hTr.out, by omega, by omega, by omega, Nat.zero_le _⟩
    have hkO : Hid (Pok (reP P O)) := pok_reP hk'.out hCh.out hO.out
    have hCO : Hid (chkN (reP P O) = 0) := chk_reP hCh.out hO.out
    have hre := hide' (wekP_re hCh.out hO.out)
    clear KN3 hTr p0 p1 p2 p3 hb3 hB3
    go_wp2
    go_loopw [12, 4, 5, 6] (fun kv _ _ _ wr => ∃ (j : Nat) (dv : Value), j ≤ 4 ∧ kv = .int .i64 (j : Int) ∧ Hid (∀ i, i < j → (if (wekP P i 0 0).isSome then some ((i : Int) - 1) else none) = none) ∧ Hid (Tk V0 gs (reP P O) wv' fv' rv' (kkN j) dv wr)) (fun kv _ _ _ _ => ((4 : Int) - intOf kv).toNat)
    case atStart => exact ⟨0, _, by omega, rfl, fun i hi => absurd hi (Nat.not_lt_zero _), hT3⟩
    case round =>
      clear hT3
      obtain ⟨j, dv, hj, rfl, hno, hTk⟩ := hrel
      by_cases hlt : j < 4
      · have hlt' : (j : Int) < 4 := by omega
        have KW := hide' (weakT hkO.out hCO.out j (by omega) (j : Int) rfl hTk.out (kkN_le j hlt))
        rw [hre.out] at KW
        obtain ⟨r, hr⟩ : ∃ r, r = wekP P j 0 0 := ⟨_, rfl⟩
        rw [← hr] at KW
        have hr' := hide' hr
        clear hr hkO hCO hre
        go_wp2_with fail
        refine KW.out.mono ?_
        rintro e w4 ⟨rfl, dv4, hT4⟩
        have hT5 := hide' (hT4.out.over ((Below.refl _ w4).alloc (Nat.le_refl _) (.cells #[.int .u64 ((r.getD 0 : Nat) : Int)] 50)))
        have hB5 := hide' (hT5.out.be hBV.out hgs.out)
        have hgr : Hid (r.isSome = true → graP P = (j : Int) - 1) := fun q => by
          show _ = _
          unfold graP
          rw [if_pos hCh.out, findR_some hlt hno.out (by rw [← hr'.out, if_pos q])]
          rfl
        have hno' : Hid (r.isSome = false → ∀ i, i < j + 1 → (if (wekP P i 0 0).isSome then some ((i : Int) - 1) else none) = none) := fun q i hi => by
          by_cases e : i = j
          · subst e; rw [← hr'.out, q]; rfl
          · exact hno.out i (by omega)
        have hTk5 : Hid (Tk V0 gs (reP P O) wv' fv' rv' (kkN (j + 1)) dv4 (w4.alloc (.cells #[.int .u64 ((r.getD 0 : Nat) : Int)] 50))) := hT5.out
        have hjw : IntKind.i64.wrap ((j : Int) - 1) = (j : Int) - 1 := by rw [IntKind.wrap_i64]; omega
        generalize r.isSome = bs at *
        generalize r.getD 0 = y at *
        clear KW hno hT4 hT5 hr' hTk
        cases bs
        · have hn := hide' (hno'.out rfl)
          clear hno' hgr
          go_wp2
          exact ⟨⟨j + 1, dv4, by omega, by go_num, hn, hTk5⟩, by simp [intOf]; omega⟩
        · have hg := hide' (hgr.out rfl)
          clear hno' hgr
          go_wp2
          go_ret
          exact ⟨by rw [hg.out]; rfl, hB2.out.trans (hB5.out.mono hB2.out.size)⟩
      · obtain rfl : j = 4 := by omega
        have hB5 := hide' (hTk.out.be hBV.out hgs.out)
        have hg : Hid (graP P = 3) := by
          show _ = _
          unfold graP
          rw [if_pos hCh.out, findR_none hno.out]
          rfl
        clear hTk hno hkO hCO hre
        go_wp2
        go_ret
        exact ⟨by rw [hg.out]; rfl, hB2.out.trans (hB5.out.mono hB2.out.size)⟩
  · have hne : ((chkN P : Int) == 0) = false := by simp; omega
    have h0 : Hid (graP P = -1) := by show _ = _; unfold graP; rw [if_neg hC]
    generalize (chkN P : Int) = q at *
    clear KN hk' hC
    go_enter Tryz.func17, Tryz.ntmps17
    go_upto_region 1 with fail
    generalize w.alloc (.cells #[.int .i64 P.users, wv, fv, rv] 26) = w1 at *
    go_wp2_with fail
    refine KC.out.mono ?_
    rintro e w2 ⟨rfl, hb2⟩
    go_wp2
    go_ret
    exact ⟨by rw [h0.out]; rfl, hB1.out.trans (hb2.mono hB1.out.size)⟩
set_option maxRecDepth 100000 in
set_option maxHeartbeats 2000000 in
theorem weakWF (P : Pb) (wv fv rv : Value) (z : Int) (w : World) (h : PbV w P wv fv rv) (hk : Pok P) (hT : M.Tab w) :
    Calls Tryz.prog 13 #[pbV P wv fv rv, .int .i64 z] w (WeP w (weaP P z)) := by
  have hB1 : Hid (Below w.heap.size w (w.alloc (.cells #[.int .i64 P.users, wv, fv, rv] 26))) := (Below.refl _ _).alloc (Nat.le_refl _) _
  have hb1 : Hid (PbB (w.alloc (.cells #[.int .i64 P.users, wv, fv, rv] 26)) w.heap.size P wv fv rv) := heap_new w _
  have p0 := hb1.out.c0
  have p1 := hb1.out.c1
  have p2 := hb1.out.c2
  have p3 := hb1.out.c3
  have KC := hide' (checkPF P wv fv rv _ (h.below hB1.out) hk.w hk.f hk.r hk.s hk.b)
  have KN : Hid (chkN P = 0 → ∀ V, Below w.heap.size w V → Calls Tryz.prog 25 #[.agg #[.int .i64 P.users, wv, fv, rv]] V (NtP V P)) := fun hC V hV => newTF P wv fv rv V (h.below hV) hk hC (hT.over hV)
  have hk' := hide' hk
  have hU64 : Hid (chkN P = 0 → P.users.toNat ≤ 64) := fun hC => by
    obtain ⟨g12, g0, g64, g32, gF, gW, gR⟩ := chkN_zero hC
    omega
  unfold pbV at KC ⊢
  unfold WeP
  clear h hk hT
  by_cases hC : chkN P = 0
  · rw [hC] at KC
    have KN2 := hide' (KN.out hC)
    have hCh := hide' hC
    by_cases hz0 : z < 0
    · have hr : Hid (weaP P z = none) := by show _ = _; unfold weaP; rw [if_neg (by omega)]
      clear KN KN2 hC hU64 hk'
      go_enter Tryz.func13, Tryz.ntmps13
      go_upto_region 1 with fail
      generalize w.alloc (.cells #[.int .i64 P.users, wv, fv, rv] 26) = w1 at *
      go_wp2_with fail
      refine KC.out.mono ?_
      rintro e w2 ⟨rfl, hb2⟩
      have hB2 : Hid (Below w.heap.size w w2) := hB1.out.trans (hb2.mono hB1.out.size)
      clear hb2
      go_wp2
      refine bodyPost_ret (v := .tuple #[.slice none 0 0, .bool false]) (by simp [results, Tryz.results13, go_sem]) rfl ?_
      exact ⟨_, by rw [hr.out]; rfl, by rw [hr.out]; exact World.ownsRow_nil _ _ _ _, hB2⟩
    · by_cases hz3 : 3 < z
      · have hr : Hid (weaP P z = none) := by show _ = _; unfold weaP; rw [if_neg (by omega)]
        clear KN KN2 hC hU64 hk'
        go_enter Tryz.func13, Tryz.ntmps13
        go_upto_region 1 with fail
        generalize w.alloc (.cells #[.int .i64 P.users, wv, fv, rv] 26) = w1 at *
        go_wp2_with fail
        refine KC.out.mono ?_
        rintro e w2 ⟨rfl, hb2⟩
        have hB2 : Hid (Below w.heap.size w w2) := hB1.out.trans (hb2.mono hB1.out.size)
        clear hb2
        go_wp2
        refine bodyPost_ret (v := .tuple #[.slice none 0 0, .bool false]) (by simp [results, Tryz.results13, go_sem]) rfl ?_
        exact ⟨_, by rw [hr.out]; rfl, by rw [hr.out]; exact World.ownsRow_nil _ _ _ _, hB2⟩
      · obtain ⟨m, rfl⟩ := Int.eq_ofNat_of_zero_le (show 0 ≤ z by omega)
        have hr : Hid (weaP P (m : Int) = wekP P m 0 0) := by show _ = _; unfold weaP; rw [if_pos ⟨hC, by omega, by omega⟩, Int.toNat_natCast]
        have hm3 : m ≤ 3 := by omega
        have hyl : (wekP P m 0 0).getD 0 < 18446744073709551616 := by
          cases hq : wekP P m 0 0 with
          | none => decide
          | some y => exact wekP_lt (hU64.out hC) (by decide) hq
        clear KN hC hU64
        go_enter Tryz.func13, Tryz.ntmps13
        go_upto_region 1 with fail
        generalize w.alloc (.cells #[.int .i64 P.users, wv, fv, rv] 26) = w1 at *
        go_wp2_with fail
        refine KC.out.mono ?_
        rintro e w2 ⟨rfl, hb2⟩
        have hB2 : Hid (Below w.heap.size w w2) := hB1.out.trans (hb2.mono hB1.out.size)
        have hb3 := hide' (hb1.out.below hb2)
        have p0 := hb3.out.c0
        have p1 := hb3.out.c1
        have p2 := hb3.out.c2
        have p3 := hb3.out.c3
        have KN3 := hide' (KN2.out w2 hB2.out)
        clear KC KN2 hb2 hb1
        go_wp2_with fail
        refine KN3.out.mono ?_
        rintro e w3 ⟨O, V0, gs, wv', fv', rv', hO, rfl, hTr, hB3, hgs, hBV⟩
        have hT3 : Hid (Tk V0 gs (reP P O) wv' fv' rv' 0 (.slice none 0 0) w3) := ⟨_, _, _, _, hTr.out, by omega, by omega, by omega, Nat.zero_le _⟩
        have KW := hide' (weakT (pok_reP hk'.out hCh.out hO.out) (chk_reP hCh.out hO.out) m hm3 (m : Int) rfl hT3.out (by omega))
        rw [wekP_re hCh.out hO.out] at KW
        generalize wekP P m 0 0 = r at *
        clear KN3 hTr p0 p1 p2 p3 hb3 hB3 hk' hCh hT3
        go_wp2_with fail
        refine KW.out.mono ?_
        rintro e w4 ⟨rfl, dv4, hT4⟩
        have hT5 := hide' (hT4.out.over ((Below.refl _ w4).alloc (Nat.le_refl _) (.cells #[.int .u64 ((r.getD 0 : Nat) : Int)] 50)))
        have hB5 := hide' (hT5.out.be hBV.out hgs.out)
        have hT6 := hide' hT5.out.tab
        have hN5 := (Bo.new w4 (.int .u64 ((r.getD 0 : Nat) : Int)) 50).c
        clear KW hT4 hT5
        go_upto_region 4 with fail
        generalize w4.alloc (.cells #[.int .u64 ((r.getD 0 : Nat) : Int)] 50) = w5 at *
        have KP := hide' (M.places64 (r.getD 0) hyl w5 hT6.out)
        clear hyl hT6
        go_wp2_with fail
        refine KP.out.mono ?_
        rintro e w6 ⟨v, rfl, ho6, hb6⟩
        have hB6 : Hid (Below w.heap.size w w6) := hB2.out.trans ((hB5.out.trans (hb6.mono hB5.out.size)).mono hB2.out.size)
        have ho7 := hide' (owns_lowS ho6 (Nat.le_trans hB2.out.size hB5.out.size))
        clear ho6 hb6 KP
        go_wp2
        refine bodyPost_ret (v := .tuple #[v, .bool r.isSome]) (by simp [results, Tryz.results13, go_sem]) rfl ?_
        exact ⟨_, by rw [hr.out], by rw [hr.out]; exact ho7.out, hB6⟩
  · have hne : ((chkN P : Int) == 0) = false := by simp; omega
    have hq0 : ¬ (chkN P : Int) = 0 := by omega
    have hr : Hid (weaP P z = none) := by show _ = _; unfold weaP; rw [if_neg fun q => hC q.1]
    generalize (chkN P : Int) = q at *
    clear KN hk' hC hU64
    go_enter Tryz.func13, Tryz.ntmps13
    go_upto_region 1 with fail
    generalize w.alloc (.cells #[.int .i64 P.users, wv, fv, rv] 26) = w1 at *
    go_wp2_with fail
    refine KC.out.mono ?_
    rintro e w2 ⟨rfl, hb2⟩
    have hB2 : Hid (Below w.heap.size w w2) := hB1.out.trans (hb2.mono hB1.out.size)
    clear hb2
    go_wp2
    refine bodyPost_ret (v := .tuple #[.slice none 0 0, .bool false]) (by simp [results, Tryz.results13, go_sem]) rfl ?_
    exact ⟨_, by rw [hr.out]; rfl, by rw [hr.out]; exact World.ownsRow_nil _ _ _ _, hB2⟩
end Go.Proofs.YtmbdnhgmpmnhmaaGreatDoor.S
namespace Go.Proofs.YtmbdnhgmpmnhmaaGreatDoor.S
open Go.RowKit Go.Shelf
def whP : Pb := ⟨3, [1, 6], [-1, -1], []⟩
theorem wh_chk : chkN whP = 0 := by decide +kernel
theorem wh_ok : Pok whP := ⟨by decide, by decide, by decide, by decide, by decide⟩
theorem wh_yes {x : Nat} (L : List Int) (h : holP (lesP whP x) L = true) : canB (lesP whP x) = true := (canB_iff _).2 ⟨L, h⟩
theorem wh_user {x t : Nat} {u : Int} (h : okU (lesP whP x) t u = true) : u = 0 ∨ u = 1 ∨ u = 2 := by
  unfold okU isU at h
  simp only [Bool.and_eq_true, decide_eq_true_eq] at h
  have h1 : u < 3 := h.1.2
  omega
theorem wh_no {x : Nat} (h0 : okU (lesP whP x) 0 0 = false) (h1 : okU (lesP whP x) 0 1 = false) (h2 : okU (lesP whP x) 0 2 = false) : canB (lesP whP x) = false := by
  cases q : canB (lesP whP x) with
  | false => rfl
  | true =>
    obtain ⟨l, hl⟩ := (canB_iff _).1 q
    exfalso
    obtain ⟨_, k2, k3, _⟩ := holP_of hl
    have k2 : l.length = 2 := k2
    obtain ⟨a, ha⟩ : ∃ a, l[0]? = some a := ⟨_, List.getElem?_eq_getElem (by omega)⟩
    have k := k3 0 a ha
    rcases wh_user k with rfl | rfl | rfl
    · rw [h0] at k; cases k
    · rw [h1] at k; cases k
    · rw [h2] at k; cases k
theorem wh0 : canB (lesP whP 0) = true := wh_yes [0, 1] (by decide +kernel)
theorem wh2 : canB (lesP whP 2) = true := wh_yes [0, 2] (by decide +kernel)
theorem wh4 : canB (lesP whP 4) = true := wh_yes [0, 1] (by decide +kernel)
theorem wh1 : canB (lesP whP 1) = false := wh_no (by decide +kernel) (by decide +kernel) (by decide +kernel)
theorem wh3 : canB (lesP whP 3) = false := wh_no (by decide +kernel) (by decide +kernel) (by decide +kernel)
theorem wh_w0 (x f : Nat) : wekP whP 0 x f = if canB (lesP whP x) then none else some x := rfl
theorem wh_first {m x f y : Nat} (hf : f < 3) (h : wekP whP m (x ||| 2 ^ f) (f + 1) = some y) : wekP whP (m + 1) x f = some y := by
  show (List.range (3 - f)).findSome? (fun a => wekP whP m (x ||| 2 ^ (f + a)) (f + a + 1)) = some y
  exact findR_some (j := 0) (by omega) (fun i hi => absurd hi (Nat.not_lt_zero _)) h
theorem wh_weak : weaP whP 2 = some 3 := by
  unfold weaP
  rw [if_pos ⟨wh_chk, by decide, by decide⟩]
  refine wh_first (m := 1) (by decide) (wh_first (m := 0) (by decide) ?_)
  rw [wh_w0]
  show (if canB (lesP whP 3) then none else some 3) = some 3
  rw [wh3]; rfl
theorem wh_need : nedP whP = 1 := by
  unfold nedP
  rw [if_pos ⟨wh_chk, wh0⟩]
  show (if canB (lesP whP 4) then (if canB (lesP whP 2) then (if canB (lesP whP 1) then 0 else 0 ||| 1) else _) else _) = 1
  rw [wh4, wh2, wh1]; rfl
theorem wh_grade : graP whP = 0 := by
  unfold graP
  rw [if_pos wh_chk]
  have h0 : wekP whP 0 0 0 = none := by rw [wh_w0, wh0]; rfl
  have h1 : wekP whP 1 0 0 = some 1 := by
    refine wh_first (m := 0) (by decide) ?_
    rw [wh_w0]
    show (if canB (lesP whP 1) then none else some 1) = some 1
    rw [wh1]; rfl
  rw [findR_some (j := 1) (y := (0 : Int)) (by decide) (fun i hi => by have e : i = 0 := (by omega); subst e; rw [h0]; rfl) (by rw [h1]; rfl)]
  rfl
theorem wh_mem (V : World) : ∃ W, W = ((V.alloc (.cells #[.int .u64 1, .int .u64 6] 27)).alloc (.cells #[.int .i64 (-1), .int .i64 (-1)] 3)).alloc (.cells #[.int .i64 3, .slice (some ⟨V.heap.size, 0, none⟩) 2 2, .slice (some ⟨V.heap.size + 1, 0, none⟩) 2 2, .slice none 0 0] 26) ∧
    PbV W whP (.slice (some ⟨V.heap.size, 0, none⟩) 2 2) (.slice (some ⟨V.heap.size + 1, 0, none⟩) 2 2) (.slice none 0 0) ∧ PbB W (V.heap.size + 1 + 1) whP (.slice (some ⟨V.heap.size, 0, none⟩) 2 2) (.slice (some ⟨V.heap.size + 1, 0, none⟩) 2 2) (.slice none 0 0) ∧ Below V.heap.size V W := by
  obtain ⟨z1, n1, k1, b1⟩ := alloc_stH V (.cells #[.int .u64 1, .int .u64 6] 27) _ rfl
  obtain ⟨z2, n2, k2, b2⟩ := alloc_stH _ (.cells #[.int .i64 (-1), .int .i64 (-1)] 3) _ z1
  obtain ⟨z5, n5, k5, b5⟩ := alloc_stH _ (.cells #[.int .i64 3, .slice (some ⟨V.heap.size, 0, none⟩) 2 2, .slice (some ⟨V.heap.size + 1, 0, none⟩) 2 2, .slice none 0 0] 26) _ z2
  refine ⟨_, rfl, ?_, n5, (b1.trans (b2.mono (by omega))).trans (b5.mono (by omega))⟩
  have m1 := k5 _ _ (k2 _ _ n1)
  have m2 := k5 _ _ n2
  generalize ((V.alloc (.cells #[.int .u64 1, .int .u64 6] 27)).alloc (.cells #[.int .i64 (-1), .int .i64 (-1)] 3)).alloc (.cells #[.int .i64 3, .slice (some ⟨V.heap.size, 0, none⟩) 2 2, .slice (some ⟨V.heap.size + 1, 0, none⟩) 2 2, .slice none 0 0] 26) = W at *
  refine ⟨⟨_, _, rfl, ⟨Nat.le_refl _, fun e => by cases e⟩, fun i z hz => ⟨_, _, rfl, ?_⟩⟩, ⟨_, _, rfl, ⟨Nat.le_refl _, fun e => by cases e⟩, fun i z hz => ⟨_, _, rfl, ?_⟩⟩, ⟨_, _, rfl, ⟨Nat.le_refl _, fun _ => rfl⟩, fun i r hr => by cases hr⟩⟩
  · match i, hz with
    | 0, hz => cases hz; simp [World.cell?, m1]
    | 1, hz => cases hz; simp [World.cell?, m1]
    | i + 2, hz => simp [whP] at hz
  · match i, hz with
    | 0, hz => cases hz; simp [World.cell?, m2]
    | 1, hz => cases hz; simp [World.cell?, m2]
    | i + 2, hz => simp [whP] at hz
theorem row_01H (V : World) : RowI (V.alloc (.cells #[.int .i64 0, .int .i64 1] 3)) (.slice (some ⟨V.heap.size, 0, none⟩) 2 2) [0, 1] := by
  have n3 := heap_new V (.cells #[.int .i64 0, .int .i64 1] 3)
  generalize V.alloc (.cells #[.int .i64 0, .int .i64 1] 3) = W at *
  refine ⟨_, _, rfl, ⟨Nat.le_refl _, fun e => by cases e⟩, fun i z hz => ⟨_, _, rfl, ?_⟩⟩
  match i, hz with
  | 0, hz => cases hz; simp [World.cell?, n3]
  | 1, hz => cases hz; simp [World.cell?, n3]
  | i + 2, hz => simp at hz
theorem ints_numsH (x : Nat) : M.intsOf (M.nums x) = cellsI ((M.nums x).map fun k => (k.val : Int)) := by unfold M.intsOf cellsI; rw [List.map_map]; rfl
set_option maxRecDepth 100000 in
set_option maxHeartbeats 2000000 in
theorem wakesHF (w : World) (hT : M.Tab w) : Calls Tryz.prog 12 #[] w fun e w' => e = .returned (.bool true) ∧ Below w.heap.size w w' := by
  obtain ⟨W3, hW, hP, hB, hb⟩ := wh_mem w
  have hT3 := hT.over hb
  have hb' := hide' hb
  have hB' := hide' hB
  have hP' := hide' hP
  have hT' := hide' hT3
  have q0 : W3.cell? ⟨w.heap.size + 1 + 1, 0, none⟩ = some (.int .i64 3) := hB.c0
  have q1 := hB.c1
  have q2 := hB.c2
  have q3 := hB.c3
  have KW : Hid (Calls Tryz.prog 13 #[.agg #[.int .i64 3, .slice (some ⟨w.heap.size, 0, none⟩) 2 2, .slice (some ⟨w.heap.size + 1, 0, none⟩) 2 2, .slice none 0 0], .int .i64 2] W3 (WeP W3 (some 3))) := by
    have := weakWF whP _ _ _ 2 W3 hP wh_ok hT3
    rw [wh_weak] at this
    exact this
  have KN : Hid (∀ V, Below W3.heap.size W3 V → Calls Tryz.prog 15 #[.agg #[.int .i64 3, .slice (some ⟨w.heap.size, 0, none⟩) 2 2, .slice (some ⟨w.heap.size + 1, 0, none⟩) 2 2, .slice none 0 0]] V fun e w' => e = .returned (.int .u64 1) ∧ Below V.heap.size V w') := fun V hV => by
    have := neededF whP _ _ _ V (hP.below hV) wh_ok (hT3.over hV)
    rw [wh_need] at this
    exact this
  have KG : Hid (∀ V, Below W3.heap.size W3 V → Calls Tryz.prog 17 #[.agg #[.int .i64 3, .slice (some ⟨w.heap.size, 0, none⟩) 2 2, .slice (some ⟨w.heap.size + 1, 0, none⟩) 2 2, .slice none 0 0]] V fun e w' => e = .returned (.int .i64 0) ∧ Below V.heap.size V w') := fun V hV => by
    have := gradeF whP _ _ _ V (hP.below hV) wh_ok (hT3.over hV)
    rw [wh_grade] at this
    exact this
  clear hP hB hb hT hT3
  go_enter Tryz.func12, Tryz.ntmps12
  go_upto_region 2 with fail
  rw [← hW]
  clear hW
  go_wp2_with fail
  refine KW.out.mono ?_
  rintro e w4 ⟨v, rfl, ho4, hb4⟩
  have hB4 := hide' (hB'.out.below hb4.out)
  have q0 : w4.cell? ⟨w.heap.size + 1 + 1, 0, none⟩ = some (.int .i64 3) := hB4.out.c0
  have q1 := hB4.out.c1
  have q2 := hB4.out.c2
  have q3 := hB4.out.c3
  have hl4 : Hid (RowI w4 v [0, 1]) := by
    have h := ho4.out
    rw [show M.nums ((some 3 : Option Nat).getD 0) = [0, 1] by decide +kernel] at h
    exact RowI.of_owns (l := [0, 1]) h
  have KN4 := hide' (KN.out w4 hb4.out)
  clear KW KN hB'
  go_wp2_with fail
  refine KN4.out.mono ?_
  rintro e w5 ⟨rfl, hb5⟩
  have hb35 : Hid (Below W3.heap.size W3 w5) := hb4.out.trans (hb5.mono hb4.out.size)
  have hA5 : Hid (Below w5.heap.size w5 (w5.alloc (.cells #[.int .i64 0, .int .i64 1] 3))) := (Below.refl _ _).alloc (Nat.le_refl _) _
  have KI := hide' (K.keepInts [0, 1] [0, 1] _ _ _ ((hl4.out.below hb5 (Nat.le_refl _)).below hA5.out (Nat.le_refl _)) (row_01H w5) (by decide) (by decide))
  rw [show decide (([0, 1] : List Int) = [0, 1]) = true by decide] at KI
  have hB5 := hide' (hB4.out.below hb5)
  clear KN4 q0 q1 q2 q3 hl4 hb5 ho4 hB4
  go_wp2_with fail
  refine KI.out.mono ?_
  rintro e w6 ⟨rfl, hb6⟩
  have hb56 : Hid (Below w5.heap.size w5 w6) := hA5.out.trans (hb6.mono hA5.out.size)
  have hb36 : Hid (Below W3.heap.size W3 w6) := hb35.out.trans (hb56.out.mono hb35.out.size)
  have hB6 := hide' (hB5.out.below hb56.out)
  have q0 : w6.cell? ⟨w.heap.size + 1 + 1, 0, none⟩ = some (.int .i64 3) := hB6.out.c0
  have q1 := hB6.out.c1
  have q2 := hB6.out.c2
  have q3 := hB6.out.c3
  have KG6 := hide' (KG.out w6 hb36.out)
  clear KI KG hb6 hB5
  go_wp2_with fail
  refine KG6.out.mono ?_
  rintro e w7 ⟨rfl, hb7⟩
  have hb37 : Hid (Below w.heap.size w w7) := hb'.out.trans ((hb36.out.trans (hb7.mono hb36.out.size)).mono hb'.out.size)
  clear KG6 hb7
  go_wp2
  go_ret
  exact ⟨rfl, hb37.out⟩
end Go.Proofs.YtmbdnhgmpmnhmaaGreatDoor.S
namespace Go.Proofs.YtmbdnhgmpmnhmaaGreatDoor.S
open Go.RowKit Go.Shelf
theorem mn_id {z x : Nat} (hz : z < 18446744073709551616) (hx : x < 18446744073709551616) (h : ∀ k, k < 64 → z.testBit k = true → x.testBit k = false) : mnW z x = z := by
  refine Nat.eq_of_testBit_eq fun k => ?_
  rcases Nat.lt_or_ge k 64 with hk | hk
  · rw [mn_test hx hk]
    cases e : z.testBit k with
    | false => rfl
    | true => rw [h k hk e]; rfl
  · have h1 : z.testBit k = false := Nat.testBit_lt_two_pow (Nat.lt_of_lt_of_le hz (Nat.pow_le_pow_right (by decide) hk : 2 ^ 64 ≤ 2 ^ k))
    rw [h1]
    exact Nat.testBit_lt_two_pow (Nat.lt_of_le_of_lt (mn_le z x) (Nat.lt_of_lt_of_le hz (Nat.pow_le_pow_right (by decide) hk : 2 ^ 64 ≤ 2 ^ k)))
theorem les_id {P : Pb} {x : Nat} (h : ∀ z ∈ P.who, mnW z x = z) : lesP P x = P := by
  have e : P.who.map (fun z => mnW z x) = P.who := by
    conv => rhs; rw [← List.map_id P.who]
    exact List.map_congr_left h
  show (⟨P.users, P.who.map fun z => mnW z x, P.fixed, P.rules⟩ : Pb) = P
  rw [e]
theorem les_zero {P : Pb} (hk : Pok P) : lesP P 0 = P := les_id fun z hz => mn_id (hk.b z hz) (by decide) fun k _ _ => Nat.zero_testBit k
/-- Who is at hand is below the users. -/
theorem who_lt {P : Pb} (hC : chkN P = 0) {z : Nat} (hz : z ∈ P.who) : z < 2 ^ P.users.toNat := by
  obtain ⟨g12, g0, g64, g32, gF, gW, gR⟩ := chkN_zero hC
  unfold whoB at gW
  have := List.all_eq_true.1 gW z hz
  unfold outU at this
  exact (Nat.div_eq_zero_iff_lt (Nat.pow_pos (by decide))).1 (of_decide_eq_true this)
theorem les_out {P : Pb} (hk : Pok P) (hC : chkN P = 0) {u : Nat} (hu : P.users.toNat ≤ u) (hu64 : u < 64) : lesP P (2 ^ u) = P := by
  refine les_id fun z hz => mn_id (hk.b z hz) (Nat.pow_lt_pow_right (by decide) hu64 : 2 ^ u < 2 ^ 64) fun k _ hz1 => ?_
  have h1 := who_lt hC hz
  refine Nat.testBit_two_pow_of_ne fun e => ?_
  subst e
  rw [Nat.testBit_lt_two_pow (Nat.lt_of_lt_of_le h1 (Nat.pow_le_pow_right (by decide) hu))] at hz1
  cases hz1
/-- What Needed tells. -/
structure NeD (Q : Pb) (c : Bool) (W : Nat) : Prop where
  lt : W < 18446744073709551616
  no : c = false → W = 0
  chk : c = true → chkN Q = 0
  bit : c = true → ∀ u, u < 64 → W.testBit u = !canB (lesP Q (2 ^ u))
theorem neD_of {Q : Pb} (hk : Pok Q) : NeD Q (canB Q) (nedP Q) := by
  by_cases hC : chkN Q = 0
  · obtain ⟨g12, g0, g64, g32, gF, gW, gR⟩ := chkN_zero hC
    cases hc : canB Q with
    | false =>
      have e : nedP Q = 0 := by unfold nedP; rw [if_neg (by rw [les_zero hk, hc]; rintro ⟨_, q⟩; cases q)]
      rw [e]
      exact ⟨by decide, fun _ => rfl, (fun q => by cases q), (fun q => by cases q)⟩
    | true =>
      have e : nedP Q = nedJ Q Q.users.toNat := by unfold nedP; rw [if_pos ⟨hC, by rw [les_zero hk]; exact hc⟩]
      rw [e]
      refine ⟨nedJ_lt Q (by omega), (fun q => by cases q), fun _ => hC, fun _ u hu => ?_⟩
      rw [nedJ_bit]
      rcases Nat.lt_or_ge u Q.users.toNat with h | h
      · rw [decide_eq_true h, Bool.true_and]
      · rw [decide_eq_false (by omega), les_out hk hC h hu, hc]; rfl
  · have e : nedP Q = 0 := by unfold nedP; rw [if_neg fun q => hC q.1]
    rw [e, canB_no hC]
    exact ⟨by decide, fun _ => rfl, (fun q => by cases q), (fun q => by cases q)⟩
theorem q_ne_gs {V : World} {gx gs a b c : Nat} {u : Int} {x y z : Value} (hq : QAt V gx u x y z) (hg : GgAt V gs a b c) : gx ≠ gs := fun e => by
  subst e
  obtain ⟨c1, h1, _⟩ := hq
  obtain ⟨c2, h2, _⟩ := hg
  rw [h1] at h2
  injection h2 with h2
  injection h2 with _ h2
  exact absurd h2 (by decide)
/-- What stands between the calls. -/
structure Hd (w : World) (Q : Pb) (qw qf qr : Value) (g gs : Nat) (a b c : Nat) (V : World) : Prop where
  s : SvS w Q qw qf qr g gs a b c V
  hgs : w.heap.size ≤ gs
  hne : ∀ ad n c, qw = .slice (some ad) n c → ad.block ≠ gs
  hgp : g ≠ gs
  hG : 1 ≤ gs
section
variable {w : World} {Q : Pb} {qw qf qr : Value} {g gs : Nat} {a b c a' b' c' : Nat} {V V' V0 : World}
theorem Hd.over (h : Hd w Q qw qf qr g gs a b c V) (hb : Below V.heap.size V V') : Hd w Q qw qf qr g gs a b c V' := ⟨h.s.over hb, h.hgs, h.hne, h.hgp, h.hG⟩
theorem Hd.fr (h : Hd w Q qw qf qr g gs a b c V) (hf : M.Fr2 V V' gs gs) (hg : GgAt V' gs a' b' c') : Hd w Q qw qf qr g gs a' b' c' V' :=
  ⟨h.s.fr hf hg h.hgs h.hne h.hgp h.hG, h.hgs, h.hne, h.hgp, h.hG⟩
theorem Hd.gl (h : Hd w Q qw qf qr g gs a b c V) : gs < V.heap.size := h.s.gg.lt
theorem Hd.cells (h : Hd w Q qw qf qr g gs a b c V) : V.cell? ⟨g, 0, none⟩ = some (.int .i64 Q.users) ∧ V.cell? ⟨g, 1, none⟩ = some qw ∧ V.cell? ⟨g, 2, none⟩ = some qf ∧ V.cell? ⟨g, 3, none⟩ = some qr := h.s.pb.all
end
end Go.Proofs.YtmbdnhgmpmnhmaaGreatDoor.S
namespace Go.Proofs.YtmbdnhgmpmnhmaaGreatDoor.S
open Go.RowKit Go.Shelf
/-- The word of a list of places. -/
def orL : List Nat → Nat
  | [] => 0
  | a :: l => 2 ^ a ||| orL l
theorem orL_test (k : Nat) : ∀ l : List Nat, (orL l).testBit k = decide (k ∈ l)
  | [] => by show Nat.testBit 0 k = _; simp
  | a :: l => by
    show (2 ^ a ||| orL l).testBit k = _
    rw [Nat.testBit_or, orL_test k l, Nat.testBit_two_pow, Bool.eq_iff_iff, Bool.or_eq_true, decide_eq_true_eq, decide_eq_true_eq, decide_eq_true_eq, List.mem_cons]
    exact ⟨fun h => h.imp Eq.symm id, fun h => h.imp Eq.symm id⟩
theorem orL_lt : ∀ {l : List Nat} {n : Nat}, (∀ x ∈ l, x < n) → orL l < 2 ^ n
  | [], n, _ => Nat.pow_pos (by decide)
  | a :: l, n, h => Nat.or_lt_two_pow (Nat.pow_lt_pow_right (by decide) (h a List.mem_cons_self)) (orL_lt fun x hx => h x (List.mem_cons_of_mem _ hx))
theorem orL_snoc (l : List Nat) (a : Nat) : orL (l ++ [a]) = orL l ||| 2 ^ a := by
  induction l with
  | nil => show 2 ^ a ||| 0 = 0 ||| 2 ^ a; simp
  | cons b l ih => show 2 ^ b ||| orL (l ++ [a]) = 2 ^ b ||| orL l ||| 2 ^ a; rw [ih, Nat.or_assoc]
/-- A word's places. -/
def numN (x : Nat) : List Nat := (M.nums x).map fun k => k.val
theorem numN_mem {x k : Nat} : k ∈ numN x ↔ k < 64 ∧ x.testBit k = true := by
  unfold numN
  rw [List.mem_map]
  constructor
  · rintro ⟨i, h, rfl⟩; exact ⟨i.2, (M.mem_nums x i).1 h⟩
  · rintro ⟨h1, h2⟩; exact ⟨⟨k, h1⟩, (M.mem_nums x _).2 h2, rfl⟩
theorem numN_asc (x : Nat) : (numN x).Pairwise (· < ·) := by
  unfold numN
  rw [List.pairwise_map]
  exact (M.sorted_nums x).imp fun h => h
theorem asc_ext : ∀ {l m : List Nat}, l.Pairwise (· < ·) → m.Pairwise (· < ·) → (∀ x, x ∈ l ↔ x ∈ m) → l = m
  | [], [], _, _, _ => rfl
  | [], b :: m, _, _, h => absurd ((h b).2 List.mem_cons_self) (by simp)
  | a :: l, [], _, _, h => absurd ((h a).1 List.mem_cons_self) (by simp)
  | a :: l, b :: m, hl, hm, h => by
    obtain ⟨l1, l2⟩ := List.pairwise_cons.1 hl
    obtain ⟨m1, m2⟩ := List.pairwise_cons.1 hm
    have e : a = b := by
      have h1 := (h a).1 List.mem_cons_self
      have h2 := (h b).2 List.mem_cons_self
      rcases List.mem_cons.1 h1 with q | q
      · exact q
      · rcases List.mem_cons.1 h2 with r | r
        · exact r.symm
        · have := m1 a q; have := l1 b r; omega
    subst e
    congr 1
    refine asc_ext l2 m2 fun x => ⟨fun hx => ?_, fun hx => ?_⟩
    · rcases List.mem_cons.1 ((h x).1 (List.mem_cons_of_mem _ hx)) with q | q
      · have := l1 x hx; omega
      · exact q
    · rcases List.mem_cons.1 ((h x).2 (List.mem_cons_of_mem _ hx)) with q | q
      · have := m1 x hx; omega
      · exact q
theorem numN_orL {l : List Nat} (h : l.Pairwise (· < ·)) (h2 : ∀ x ∈ l, x < 64) : numN (orL l) = l :=
  asc_ext (numN_asc _) h fun x => by
    rw [numN_mem, orL_test, decide_eq_true_eq]
    exact ⟨fun q => q.2, fun q => ⟨h2 x q, q⟩⟩
theorem orL_numN {x : Nat} (h : x < 18446744073709551616) : orL (numN x) = x := by
  refine Nat.eq_of_testBit_eq fun k => ?_
  rw [orL_test, Bool.eq_iff_iff, decide_eq_true_eq, numN_mem]
  constructor
  · exact fun q => q.2
  · intro q
    refine ⟨?_, q⟩
    rcases Nat.lt_or_ge k 64 with hk | hk
    · exact hk
    · rw [Nat.testBit_lt_two_pow (Nat.lt_of_lt_of_le h (Nat.pow_le_pow_right (by decide) hk : 2 ^ 64 ≤ 2 ^ k))] at q; cases q
/-- No later: the first place at which two lists differ. -/
def leL : List Nat → List Nat → Prop
  | a :: l, b :: m => a < b ∨ (a = b ∧ leL l m)
  | _, _ => True
/-- m places, rising, from f on and below U. -/
structure Asc (U f m : Nat) (l : List Nat) : Prop where
  len : l.length = m
  asc : l.Pairwise (· < ·)
  rng : ∀ x ∈ l, f ≤ x ∧ x < U
theorem Asc.cons {U f m b : Nat} {l : List Nat} (h : Asc U (b + 1) m l) (h1 : f ≤ b) (h2 : b < U) : Asc U f (m + 1) (b :: l) :=
  ⟨by rw [List.length_cons, h.len], List.pairwise_cons.2 ⟨fun x hx => by have := h.rng x hx; omega, h.asc⟩, fun x hx => by
    rcases List.mem_cons.1 hx with rfl | q
    · exact ⟨h1, h2⟩
    · have := h.rng x q; omega⟩
theorem Asc.tail {U f m b : Nat} {l : List Nat} (h : Asc U f (m + 1) (b :: l)) : Asc U (b + 1) m l ∧ f ≤ b ∧ b < U := by
  obtain ⟨h1, h2⟩ := List.pairwise_cons.1 h.asc
  refine ⟨⟨by have := h.len; simpa using this, h2, fun x hx => ⟨h1 x hx, (h.rng x (List.mem_cons_of_mem _ hx)).2⟩⟩, (h.rng b List.mem_cons_self).1, (h.rng b List.mem_cons_self).2⟩
/-- What is found, by its places. -/
theorem wekP_list {P : Pb} : ∀ {m x f y : Nat}, wekP P m x f = some y → ∃ l, Asc P.users.toNat f m l ∧ y = x ||| orL l ∧ canB (lesP P y) = false
  | 0, x, f, y, h => by
    unfold wekP at h
    split at h
    · cases h
    · injection h with h
      subst h
      exact ⟨[], ⟨rfl, List.Pairwise.nil, fun _ hx => by cases hx⟩, by show x = x ||| 0; simp, Bool.eq_false_iff.2 ‹_›⟩
  | m + 1, x, f, y, h => by
    unfold wekP at h
    obtain ⟨a, h1, h2⟩ := List.exists_of_findSome?_eq_some h
    have h3 := List.mem_range.1 h1
    obtain ⟨l, h4, h5, h6⟩ := wekP_list h2
    exact ⟨(f + a) :: l, h4.cons (by omega) (by omega), by rw [h5]; show x ||| 2 ^ (f + a) ||| orL l = x ||| (2 ^ (f + a) ||| orL l); rw [Nat.or_assoc], h6⟩
/-- Any such set that is not borne: one no later is found. -/
theorem wekP_first {P : Pb} : ∀ {m x f : Nat} {bs : List Nat}, Asc P.users.toNat f m bs → canB (lesP P (x ||| orL bs)) = false → ∃ l, Asc P.users.toNat f m l ∧ wekP P m x f = some (x ||| orL l) ∧ leL l bs
  | 0, x, f, bs, h, hc => by
    obtain rfl : bs = [] := List.eq_nil_of_length_eq_zero h.len
    refine ⟨[], h, ?_, trivial⟩
    have e : x ||| orL [] = x := by show x ||| 0 = x; simp
    rw [e] at hc ⊢
    unfold wekP
    rw [hc]; rfl
  | m + 1, x, f, bs, h, hc => by
    obtain ⟨b, bs, rfl⟩ : ∃ b l, bs = b :: l := by
      cases bs with
      | nil => have := h.len; cases this
      | cons b l => exact ⟨b, l, rfl⟩
    obtain ⟨ht, hfb, hbU⟩ := h.tail
    have hc2 : canB (lesP P ((x ||| 2 ^ b) ||| orL bs)) = false := by rw [Nat.or_assoc]; exact hc
    obtain ⟨l, h1, h2, h3⟩ := wekP_first ht hc2
    -- the first round that finds
    have hex : ∃ j, j < P.users.toNat - f ∧ (∀ i, i < j → wekP P m (x ||| 2 ^ (f + i)) (f + i + 1) = none) ∧ (wekP P m (x ||| 2 ^ (f + j)) (f + j + 1)).isSome = true ∧ f + j ≤ b := by
      have key : ∀ n, n ≤ b - f + 1 → (∃ j, j < n ∧ (∀ i, i < j → wekP P m (x ||| 2 ^ (f + i)) (f + i + 1) = none) ∧ (wekP P m (x ||| 2 ^ (f + j)) (f + j + 1)).isSome = true) ∨ ∀ i, i < n → wekP P m (x ||| 2 ^ (f + i)) (f + i + 1) = none := by
        intro n
        induction n with
        | zero => exact fun _ => .inr fun i hi => absurd hi (Nat.not_lt_zero _)
        | succ n ih =>
          intro hn
          rcases ih (by omega) with ⟨j, q1, q2, q3⟩ | q
          · exact .inl ⟨j, by omega, q2, q3⟩
          · cases e : wekP P m (x ||| 2 ^ (f + n)) (f + n + 1) with
            | some y => exact .inl ⟨n, Nat.lt_succ_self _, q, by rw [e]; rfl⟩
            | none =>
              refine .inr fun i hi => ?_
              by_cases ei : i = n
              · rw [ei]; exact e
              · exact q i (by omega)
      rcases key (b - f + 1) (Nat.le_refl _) with ⟨j, q1, q2, q3⟩ | q
      · exact ⟨j, by omega, q2, q3, by omega⟩
      · have := q (b - f) (by omega)
        rw [show f + (b - f) = b by omega, h2] at this
        cases this
    obtain ⟨j, hj, hno, hs, hjb⟩ := hex
    obtain ⟨y, hy⟩ := Option.isSome_iff_exists.1 hs
    have hw : wekP P (m + 1) x f = some y := by
      unfold wekP
      exact findR_some hj hno hy
    by_cases e : f + j = b
    · have hy2 := hy
      rw [e, h2] at hy2
      injection hy2 with hy2
      refine ⟨b :: l, h1.cons hfb hbU, ?_, .inr ⟨rfl, h3⟩⟩
      rw [hw, ← hy2]
      show some (x ||| 2 ^ b ||| orL l) = some (x ||| (2 ^ b ||| orL l))
      rw [Nat.or_assoc]
    · obtain ⟨l2, k1, k2, _⟩ := wekP_list hy
      refine ⟨(f + j) :: l2, k1.cons (by omega) (by omega), ?_, .inl (by omega)⟩
      rw [hw, k2]
      show some (x ||| 2 ^ (f + j) ||| orL l2) = some (x ||| (2 ^ (f + j) ||| orL l2))
      rw [Nat.or_assoc]
end Go.Proofs.YtmbdnhgmpmnhmaaGreatDoor.S
