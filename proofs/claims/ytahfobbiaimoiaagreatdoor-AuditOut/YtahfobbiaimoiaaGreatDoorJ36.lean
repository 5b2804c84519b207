/- played: a run behind calls. -/
import Derived.Test.YtahfobbiaimoiaaGreatDoorJ15
import Derived.Test.YtahfobbiaimoiaaGreatDoorJ32
import Derived.Test.YtahfobbiaimoiaaGreatDoorJ35
import Derived.Deep.RegionHeld3
import Derived.Deep.CutRange
namespace Go.Proofs.YtahfobbiaimoiaaGreatDoor
open Go.RowKit
/-- A row of events, wherever it lies. -/
def EvQ (w : World) (v : Value) (L : List Ev) : Prop := ∃ oa cap, v = .slice oa L.length cap ∧ (L.length ≤ cap ∧ (oa = none → cap = 0)) ∧ ∀ i e, L[i]? = some e → ∃ g f, oa = some ⟨g, f, none⟩ ∧ w.cell? ⟨g, f + i * 4, none⟩ = some (.int .i64 e.tick) ∧ w.cell? ⟨g, f + i * 4 + 1, none⟩ = some (.int .i64 e.kind) ∧ w.cell? ⟨g, f + i * 4 + 2, none⟩ = some (.int .i64 e.step) ∧ w.cell? ⟨g, f + i * 4 + 3, none⟩ = some (.int .i64 e.user)
theorem EvQ.over {w w' : World} {v : Value} {L : List Ev} (h : EvQ w v L) (hb : Below w.heap.size w w') : EvQ w' v L := by
  obtain ⟨oa, cap, e, hc, h⟩ := h
  refine ⟨oa, cap, e, hc, fun i x hx => ?_⟩
  obtain ⟨g, f, e, h0, h1, h2, h3⟩ := h i x hx
  exact ⟨g, f, e, (hb.cell (cell_lt h0)).trans h0, (hb.cell (cell_lt h1)).trans h1, (hb.cell (cell_lt h2)).trans h2, (hb.cell (cell_lt h3)).trans h3⟩
theorem EvQ.of_owns {W : World} {B : Nat} {v : Value} {L : List Ev} (h : W.ownsRow B 76 4 v L.length (cellsEv L)) : EvQ W v L := by
  have h0 := h
  rcases h.2 with ⟨rfl, e0⟩ | ⟨g, cap, cs, rfl, _, _, hc, _⟩
  · have : L = [] := List.eq_nil_of_length_eq_zero e0
    subst this
    exact ⟨none, 0, rfl, ⟨Nat.le_refl _, fun _ => rfl⟩, fun i e h => by cases h⟩
  · refine ⟨some ⟨g, 0, none⟩, cap, rfl, ⟨hc, fun e => by cases e⟩, fun i e he => ?_⟩
    obtain ⟨a0, a1, a2, a3⟩ := evAt h0 (List.getElem?_eq_some_iff.1 he).1 he
    exact ⟨g, 0, rfl, by rw [Nat.zero_add]; exact a0, by rw [Nat.zero_add]; exact a1, by rw [Nat.zero_add]; exact a2, by rw [Nat.zero_add]; exact a3⟩
set_option maxRecDepth 100000 in
theorem firstF (L : List Ev) (v : Value) (w : World) (h : EvQ w v L) :
    Calls Tryz.prog 47 #[v] w fun e w' => e = .returned (.int .i64 (ftk L)) ∧ Below w.heap.size w w' := by
  obtain ⟨oa, cap, rfl, hc, h⟩ := h
  have hB := hide' (Below.refl w.heap.size w)
  cases L with
  | nil =>
    clear h
    have hl : ([] : List Ev).length = 0 := rfl
    rw [hl]
    go_enter Tryz.func47, Tryz.ntmps47
    go_wp2
    go_ret
    exact ⟨rfl, hB.out⟩
  | cons x t =>
    obtain ⟨g, f, rfl, h0, h1, h2, h3⟩ := h 0 x rfl
    rw [Nat.zero_mul, Nat.add_zero] at h0
    have hl : (x :: t).length = t.length + 1 := rfl
    rw [hl] at hc ⊢
    have hne : ((t.length + 1 : Nat) : Int) ≠ 0 := by omega
    have hne' : (((t.length + 1 : Nat) : Int) == 0) = false := by rw [beq_eq_false_iff_ne]; exact hne
    have hpos : (0 : Int) < ((t.length + 1 : Nat) : Int) := by omega
    have hf : ftk (x :: t) = x.tick := rfl
    rw [hf]
    obtain ⟨hc1, _⟩ := hc
    clear h h1 h2 h3 hf hl
    generalize x.tick = z at *
    generalize t.length + 1 = n at *
    go_enter Tryz.func47, Tryz.ntmps47
    go_wp2
    go_ret
    exact ⟨rfl, hB.out⟩
section
variable {V0 : World} {F : Fw} {gr gt : Nat} {sv rv : Value} {go gp gs ct : Nat} {Pf Sf : Nat → Nat} {P1 : List (Sp × Value)} {P2 : List (Rl × Value)} {lv : Value} {R : Rs} {W : World}
set_option maxRecDepth 100000 in
set_option maxHeartbeats 2000000 in
/-- The call of an event. -/
theorem againF (h : RnX V0 F gr gt sv rv go gp gs ct Pf Sf P1 P2 lv R W) (hl : R.log.length ≤ 100000) (e : Ev) :
    Calls Tryz.prog 48 #[.pointer (some ⟨gr, 0, none⟩), .agg #[.int .i64 e.tick, .int .i64 e.kind, .int .i64 e.step, .int .i64 e.user]] W fun x w' => x = .returned (.tuple #[]) ∧ ∃ lv', RnX V0 F gr gt sv rv go gp gs ct Pf Sf P1 P2 lv' (agR Pf R e) w' := by
  obtain ⟨t, k, s, u⟩ := e
  show Calls Tryz.prog 48 #[.pointer (some ⟨gr, 0, none⟩), .agg #[.int .i64 t, .int .i64 k, .int .i64 s, .int .i64 u]] W _
  have h1 := h.over ((Below.refl _ W).alloc (Nat.le_refl _) (.cells #[.int .i64 t, .int .i64 k, .int .i64 s, .int .i64 u] 76))
  obtain ⟨x0, x1, x2, x3⟩ := bx4 (heap_alloc_new W (.cells #[.int .i64 t, .int .i64 k, .int .i64 s, .int .i64 u] 76))
  by_cases k2 : k = 2
  · subst k2
    have K := hide' (h1.claimC hl s u t)
    rw [show agR Pf R ⟨t, 2, s, u⟩ = clmR Pf R s u t from rfl]
    clear h h1
    go_enter Tryz.func48, Tryz.ntmps48
    go_wp2_with fail
    refine K.out.mono ?_
    rintro e w1 ⟨rfl, lv', hX⟩
    have hX' := hide' hX
    clear K hX x0 x1 x2 x3
    go_wp2
    go_end0
    exact ⟨rfl, _, hX'.out⟩
  have n2 : (k == 2) = false := by rw [beq_eq_false_iff_ne]; exact k2
  by_cases k3 : k = 3
  · subst k3
    have K := hide' (h1.doneC hl s u t)
    rw [show agR Pf R ⟨t, 3, s, u⟩ = donR R s u t from rfl]
    clear h h1
    go_enter Tryz.func48, Tryz.ntmps48
    go_wp2_with fail
    refine K.out.mono ?_
    rintro e w1 ⟨rfl, lv', hX⟩
    have hX' := hide' hX
    clear K hX x0 x1 x2 x3
    go_wp2
    go_end0
    exact ⟨rfl, _, hX'.out⟩
  have n3 : (k == 3) = false := by rw [beq_eq_false_iff_ne]; exact k3
  by_cases k4 : k = 4
  · subst k4
    have K := hide' (h1.abortC hl t)
    generalize (if endd R = true then (30 : Int) else 0) = zz at K
    rw [show agR Pf R ⟨t, 4, s, u⟩ = aboR R t from rfl]
    clear h h1
    go_enter Tryz.func48, Tryz.ntmps48
    go_wp2_with fail
    refine K.out.mono ?_
    rintro e w1 ⟨rfl, lv', hX⟩
    have hX' := hide' hX
    clear K hX x0 x1 x2 x3
    go_wp2
    go_end0
    exact ⟨rfl, _, hX'.out⟩
  have n4 : (k == 4) = false := by rw [beq_eq_false_iff_ne]; exact k4
  by_cases k5 : k = 5
  · subst k5
    have K := hide' (h1.markC hl true t)
    rw [show agR Pf R ⟨t, 5, s, u⟩ = mrkR R true t from rfl]
    clear h h1
    go_enter Tryz.func48, Tryz.ntmps48
    go_wp2_with fail
    refine K.out.mono ?_
    rintro e w1 ⟨rfl, lv', hX⟩
    have hX' := hide' hX
    clear K hX x0 x1 x2 x3
    go_wp2
    go_end0
    exact ⟨rfl, _, hX'.out⟩
  have n5 : (k == 5) = false := by rw [beq_eq_false_iff_ne]; exact k5
  by_cases k6 : k = 6
  · subst k6
    have K := hide' (h1.markC hl false t)
    rw [show agR Pf R ⟨t, 6, s, u⟩ = mrkR R false t from rfl]
    clear h h1
    go_enter Tryz.func48, Tryz.ntmps48
    go_wp2_with fail
    refine K.out.mono ?_
    rintro e w1 ⟨rfl, lv', hX⟩
    have hX' := hide' hX
    clear K hX x0 x1 x2 x3
    go_wp2
    go_end0
    exact ⟨rfl, _, hX'.out⟩
  have n6 : (k == 6) = false := by rw [beq_eq_false_iff_ne]; exact k6
  rw [show agR Pf R ⟨t, k, s, u⟩ = R by unfold agR; simp [k2, k3, k4, k5, k6]]
  have hX' := hide' h1
  clear h h1
  go_enter Tryz.func48, Tryz.ntmps48
  go_wp2_with fail
  go_end0
  exact ⟨rfl, _, hX'.out⟩
end
theorem ev_cmp (a b c d a' b' c' d' : Int) (w : World) : (Op.equalIn 10000 76 (.agg #[.int .i64 a, .int .i64 b, .int .i64 c, .int .i64 d]) (.agg #[.int .i64 a', .int .i64 b', .int .i64 c', .int .i64 d'])).run Tryz.prog w = .ok (decide ((⟨a, b, c, d⟩ : Ev) = ⟨a', b', c', d'⟩)) w := by
  have u3 := Tryz.underlying3
  have a3 := Tryz.isAgg3
  have z3 := Tryz.sizeOf3
  rw [show (10000 : Nat) = 9999 + 1 from rfl, run_equalIn_struct w 9999 _ _ _ (by simp [Program.fieldsOf, Tryz.underlying76]) (by kernel_rfl)]
  simp only [Program.fieldsOf, Tryz.underlying76]
  by_cases h1 : a = a'
  · subst h1
    by_cases h2 : b = b'
    · subst h2
      by_cases h3 : c = c'
      · subst h3
        by_cases h4 : d = d'
        · subst h4
          go_simp
        · have h4' : (d == d') = false := by rw [beq_eq_false_iff_ne]; exact h4
          have he : ¬ ((⟨a, b, c, d⟩ : Ev) = ⟨a, b, c, d'⟩) := fun e => h4 (by injection e)
          rw [decide_eq_false he]
          go_simp
      · have h3' : (c == c') = false := by rw [beq_eq_false_iff_ne]; exact h3
        have he : ¬ ((⟨a, b, c, d⟩ : Ev) = ⟨a, b, c', d'⟩) := fun e => h3 (by injection e)
        rw [decide_eq_false he]
        go_simp
    · have h2' : (b == b') = false := by rw [beq_eq_false_iff_ne]; exact h2
      have he : ¬ ((⟨a, b, c, d⟩ : Ev) = ⟨a, b', c', d'⟩) := fun e => h2 (by injection e)
      rw [decide_eq_false he]
      go_simp
  · have h1' : (a == a') = false := by rw [beq_eq_false_iff_ne]; exact h1
    have he : ¬ ((⟨a, b, c, d⟩ : Ev) = ⟨a', b', c', d'⟩) := fun e => h1 (by injection e)
    rw [decide_eq_false he]
    go_simp
theorem take_eqE {A L : List Ev} {c : Nat} (h : A.take c = L.take c) {x y : Ev} (hx : A[c]? = some x) (hy : L[c]? = some y) (e : x = y) : A.take (c + 1) = L.take (c + 1) := by
  rw [List.take_add_one, List.take_add_one, hx, hy, h, e]
set_option maxRecDepth 100000 in
set_option maxHeartbeats 2000000 in
/-- Equal of two rows of events. -/
theorem equalEv (A L : List Ev) (va vb : Value) (w : World) (ha : EvQ w va A) (hb : EvQ w vb L) (hl : L.length ≤ 100000) :
    Calls Tryz.prog 49 #[va, vb] w fun e w' => e = .returned (.bool (decide (A = L))) ∧ Below w.heap.size w w' := by
  have hA : Hid (∀ V, Below w.heap.size w V → EvQ V va A) := fun V hV => ha.over hV
  have hB : Hid (∀ V, Below w.heap.size w V → EvQ V vb L) := fun V hV => hb.over hV
  obtain ⟨oa, ca, rfl, hca, _⟩ := ha
  obtain ⟨ob, cb, rfl, hcb, _⟩ := hb
  have hbl := hide' (Below.refl w.heap.size w)
  by_cases hlen : A.length = L.length
  rotate_left
  · have he : ¬ A = L := fun e => hlen (by rw [e])
    rw [decide_eq_false he]
    have hne : ((A.length : Int) == (L.length : Int)) = false := by rw [beq_eq_false_iff_ne]; omega
    clear hA hB he
    go_enter Tryz.func49, Tryz.ntmps49
    go_wp2
    go_ret
    exact ⟨rfl, hbl.out⟩
  rw [hlen] at hca
  have hlen' := hide' hlen
  obtain ⟨DD, hDD⟩ : ∃ d, d = decide (A = L) := ⟨_, rfl⟩
  rw [← hDD]
  have hDD' := hide' hDD
  rw [hlen]
  clear hDD hlen
  go_enter Tryz.func49, Tryz.ntmps49
  go_wp2
  go_loopw [5, 13] (fun _ k wr => ∃ c : Nat, c ≤ L.length ∧ k = .int .i64 c ∧ Hid (A.take c = L.take c) ∧ Hid (Below w.heap.size w wr)) (fun _ k _ => ((L.length : Int) - intOf k).toNat)
  case atStart => exact ⟨0, Nat.zero_le _, rfl, rfl, hbl⟩
  case round =>
    as_aux_lemma =>
    clear hbl
    obtain ⟨c, hcl, rfl, hq, hBl⟩ := hrel
    by_cases hlt : c < L.length
    · obtain ⟨e, hx⟩ : ∃ x, A[c]? = some x := ⟨_, List.getElem?_eq_getElem (by rw [hlen'.out]; exact hlt)⟩
      obtain ⟨e', hy⟩ : ∃ x, L[c]? = some x := ⟨_, List.getElem?_eq_getElem hlt⟩
      obtain ⟨_, _, e1, _, h1⟩ := hA.out wr hBl.out
      obtain ⟨_, _, e2, _, h2⟩ := hB.out wr hBl.out
      injection e1 with e1 _ e1c
      injection e2 with e2 _ e2c
      subst e1 e1c e2 e2c
      obtain ⟨g1, f1, rfl, a0, a1, a2, a3⟩ := h1 c e hx
      obtain ⟨g2, f2, rfl, b0, b1, b2, b3⟩ := h2 c e' hy
      have hn := hide' (fun h : e = e' => take_eqE hq.out hx hy h)
      have hd : Hid (e ≠ e' → DD = false) := fun h => hDD'.out.trans (decide_eq_false fun e3 => h (by rw [e3, hy] at hx; exact (Option.some.inj hx).symm))
      have hcmp : ∀ W : World, (Op.equalIn 10000 76 (.agg #[.int .i64 e.tick, .int .i64 e.kind, .int .i64 e.step, .int .i64 e.user]) (.agg #[.int .i64 e'.tick, .int .i64 e'.kind, .int .i64 e'.step, .int .i64 e'.user])).run Tryz.prog W = .ok (decide (e = e')) W := fun W => ev_cmp _ _ _ _ _ _ _ _ W
      clear hA hB hx hy h1 h2 hq
      generalize e.tick = t0 at *
      generalize e.kind = t1 at *
      generalize e.step = t2 at *
      generalize e.user = t3 at *
      generalize e'.tick = s0 at *
      generalize e'.kind = s1 at *
      generalize e'.step = s2 at *
      generalize e'.user = s3 at *
      by_cases hee : e = e'
      · have hn' := hide' (hn.out hee)
        rw [decide_eq_true hee] at hcmp
        clear hn hd hee hDD'
        go_wp2
        go_quiet (fail)
        go_wp2
        exact ⟨⟨c + 1, by omega, by go_num, hn', below_drewR hBl.out _⟩, by simp [intOf]; omega⟩
      · have hd' := hide' (hd.out hee)
        rw [decide_eq_false hee] at hcmp
        clear hn hd hee hDD'
        go_wp2
        go_quiet (fail)
        go_wp2
        go_ret
        exact ⟨by rw [hd'.out]; rfl, below_drewR hBl.out _⟩
    · obtain rfl : c = L.length := by omega
      have hq' : Hid (DD = true) := hDD'.out.trans (decide_eq_true (by
        have := hq.out
        rwa [List.take_length, ← hlen'.out, List.take_length] at this))
      clear hA hB hq hDD'
      go_wp2
      go_ret
      exact ⟨by rw [hq'.out]; rfl, hBl.out⟩
end Go.Proofs.YtahfobbiaimoiaaGreatDoor
namespace Go.Proofs.YtahfobbiaimoiaaGreatDoor
open Go.RowKit
/-- What a run reads lies behind a world. -/
def OgX (w V0 : World) (go gp gs : Nat) (sv rv : Value) (P1 : List (Sp × Value)) (P2 : List (Rl × Value)) : Prop := Below w.heap.size w V0 ∧ (w.heap.size ≤ go ∧ w.heap.size ≤ gp ∧ w.heap.size ≤ gs ∧ TwP w.heap.size V0 sv P1 ∧ TwS w.heap.size V0 rv P2)
/-- What New answers, in one form. -/
def NwX (F : Fw) (tick : Int) (w : World) (pa : Option Addr) (W : World) : Prop :=
  (pa = none ∧ chkF F ≠ 0) ∨ (FlOk F ∧ chkF F = 0 ∧ ∃ V0 gr gt sv rv go gp gs ct Pf Sf P1 P2 lv, pa = some ⟨gr, 0, none⟩ ∧ OgX w V0 go gp gs sv rv P1 P2 ∧ RnX V0 F gr gt sv rv go gp gs ct Pf Sf P1 P2 lv (newR F.steps.length tick) W)
theorem NewP.oneX {F : Fw} {tick : Int} {w w' : World} {e : Ending} (h : NewP F tick w e w') : ∃ pa, e = .returned (.tuple #[.pointer pa, .int .i64 (chkF F)]) ∧ Below w.heap.size w w' ∧ NwX F tick w pa w' := by
  rcases h with ⟨h0, rfl, hb⟩ | ⟨ok, V0, gr, gt, sv, rv, go, gp, gs, ct, Pf, Sf, P1, P2, lv, rfl, hbV, hog, hX⟩
  · exact ⟨none, rfl, hb, .inl ⟨rfl, h0⟩⟩
  · exact ⟨_, by rw [chkF_ok ok], hbV.trans (hX.bl.mono hbV.size), .inr ⟨ok, chkF_ok ok, V0, gr, gt, sv, rv, go, gp, gs, ct, Pf, Sf, P1, P2, lv, rfl, ⟨hbV, hog⟩, hX⟩⟩
/-- What Replay answers. -/
def RpP (F : Fw) (L : List Ev) (w : World) (e : Ending) (w' : World) : Prop :=
  ∃ pa z, e = .returned (.tuple #[.pointer pa, .int .i64 z]) ∧ Below w.heap.size w w' ∧
    ((chkF F ≠ 0 ∧ pa = none ∧ z = chkF F) ∨ (FlOk F ∧ ∃ V0 gr gt sv rv go gp gs ct Pf Sf P1 P2 lv wN, (Below w.heap.size w wN ∧ OgX wN V0 go gp gs sv rv P1 P2) ∧ RnX V0 F gr gt sv rv go gp gs ct Pf Sf P1 P2 lv (rpR Pf (newR F.steps.length (ftk L)) L) w' ∧
      (((rpR Pf (newR F.steps.length (ftk L)) L).log = L ∧ pa = some ⟨gr, 0, none⟩ ∧ z = 0) ∨ ((rpR Pf (newR F.steps.length (ftk L)) L).log ≠ L ∧ pa = none ∧ z = 3))))
theorem rpR_ne (Pf : Nat → Nat) (n : Nat) (t : Int) (l : List Ev) : (rpR Pf (newR n t) l).log ≠ [] := fun e => by
  have := rpR_pre Pf l (newR n t) (i := 0) (x := ⟨t, 1, -1, -1⟩) rfl
  rw [e] at this
  cases this
set_option maxRecDepth 100000 in
set_option maxHeartbeats 4000000 in
theorem replayF (F : Fw) (L : List Ev) (v vl : Value) (w : World) (hv : flV w v F) (hB : FlB F) (hl : EvQ w vl L) (hn : L.length ≤ 1000) (ht : O.Tab w) : Calls Tryz.prog 11 #[v, vl] w (RpP F L w) := by
  have hv0 := hide' hv
  have hl0 : Hid (∀ V, Below w.heap.size w V → EvQ V vl L) := fun V hV => hl.over hV
  obtain ⟨sv0, rv0, rfl, hs, hr⟩ := hv
  obtain ⟨oa, cap, rfl⟩ := hs.shape
  obtain ⟨ob, cb, rfl⟩ := hr.shape
  obtain ⟨ol, cl, rfl, hcl, _⟩ := hl
  have KN : Hid (∀ V, Below w.heap.size w V → Calls Tryz.prog 46 #[.agg #[.string F.name, .slice oa F.steps.length cap, .slice ob F.rules.length cb], .int .i64 (ftk L)] V (NewP F (ftk L) V)) := fun V hV => newRF F _ (ftk L) V (hv0.out.below hV (Nat.le_refl _)) hB (ht.over hV)
  have KF : Hid (∀ V, Below w.heap.size w V → Calls Tryz.prog 47 #[.slice ol L.length cl] V fun e w' => e = .returned (.int .i64 (ftk L)) ∧ Below V.heap.size V w') := fun V hV => firstF L _ V (hl0.out V hV)
  have hR1 : Hid (∀ w', chkF F ≠ 0 → Below w.heap.size w w' → RpP F L w (.returned (.tuple #[.pointer none, .int .i64 (chkF F)])) w') := fun w' h1 h2 => ⟨_, _, rfl, h2, .inl ⟨h1, rfl, rfl⟩⟩
  have hR2 : Hid (∀ V0 gr gt sv rv go gp gs ct Pf Sf P1 P2 wN lv w', (Below w.heap.size w wN ∧ OgX wN V0 go gp gs sv rv P1 P2) → FlOk F → Below w.heap.size w w' → RnX V0 F gr gt sv rv go gp gs ct Pf Sf P1 P2 lv (rpR Pf (newR F.steps.length (ftk L)) L) w' → ((rpR Pf (newR F.steps.length (ftk L)) L).log = L → RpP F L w (.returned (.tuple #[.pointer (some ⟨gr, 0, none⟩), .int .i64 0])) w') ∧ ((rpR Pf (newR F.steps.length (ftk L)) L).log ≠ L → RpP F L w (.returned (.tuple #[.pointer none, .int .i64 3])) w')) := fun V0 gr gt sv rv go gp gs ct Pf Sf P1 P2 wN lv w' hN ok h2 hX => ⟨fun h => ⟨_, _, rfl, h2, .inr ⟨ok, V0, gr, gt, sv, rv, go, gp, gs, ct, Pf, Sf, P1, P2, lv, wN, hN, hX, .inl ⟨h, rfl, rfl⟩⟩⟩, fun h => ⟨_, _, rfl, h2, .inr ⟨ok, V0, gr, gt, sv, rv, go, gp, gs, ct, Pf, Sf, P1, P2, lv, wN, hN, hX, .inr ⟨h, rfl, rfl⟩⟩⟩⟩
  clear hs hr hv0 hB ht
  generalize RpP F L w = QQ at *
  have D1 := hide' (heap_alloc_new w (.cells #[.string F.name, .slice oa F.steps.length cap, .slice ob F.rules.length cb] 25))
  have B0 : Hid (Below w.heap.size w (w.alloc (.cells #[.string F.name, .slice oa F.steps.length cap, .slice ob F.rules.length cb] 25))) := (Below.refl _ w).alloc (Nat.le_refl _) _
  go_enter Tryz.func11, Tryz.ntmps11
  go_wp2_with fail
  generalize w.alloc (.cells #[.string F.name, .slice oa F.steps.length cap, .slice ob F.rules.length cb] 25) = W1 at *
  have hK : Hid (∀ V, Below W1.heap.size W1 V → Below w.heap.size w V ∧ V.cell? ⟨w.heap.size, 0, none⟩ = some (.string F.name) ∧ V.cell? ⟨w.heap.size, 1, none⟩ = some (.slice oa F.steps.length cap) ∧ V.cell? ⟨w.heap.size, 2, none⟩ = some (.slice ob F.rules.length cb)) := fun V hW => by
    have e1 := (hW.block _ (Array.getElem?_eq_some_iff.1 D1.out).1).trans D1.out
    exact ⟨B0.out.trans (hW.mono B0.out.size), by simp [World.cell?, e1], by simp [World.cell?, e1], by simp [World.cell?, e1]⟩
  have hd : Hid (Below W1.heap.size W1 W1.drew) := (Below.refl _ W1).drew
  clear D1 B0
  go_region_held3 (fun V => V.cell? ⟨w.heap.size, 0, none⟩ = some (.string F.name) ∧ V.cell? ⟨w.heap.size, 1, none⟩ = some (.slice oa F.steps.length cap) ∧ V.cell? ⟨w.heap.size, 2, none⟩ = some (.slice ob F.rules.length cb)) (first | (exact (hK.out _ B3.out).2) | (exact (hK.out _ B2.out).2) | (exact (hK.out _ hd.out).2)) (first | (go_at_call 46; refine (KN.out _ (hK.out _ B2.out).1).mono ?_; intro e w3 hN; obtain ⟨pa, rfl, hb3, hX⟩ := hN.oneX; have B3 := hide' (B2.out.trans (hb3.mono B2.out.size)); have B2w := hide' (hK.out _ B2.out).1; have hX3 := hide' hX; clear hN hX; (try dsimp only)) | (go_at_call 47; refine (KF.out _ (hK.out _ hd.out).1).mono ?_; rintro e w2 ⟨rfl, hb2⟩; have B2 := hide' (hd.out.trans (hb2.mono hd.out.size)); clear hb2; (try dsimp only)))
  have hB3 := hide' (hK.out _ B3.out).1
  clear KN KF B2 B3 hd hK
  rcases hX3.out with ⟨rfl, h0⟩ | ⟨ok, h0, V0, gr, gt, sv, rv, go, gp, gs, ct, Pf, Sf, P1, P2, lv, rfl, hbV, hX⟩
  · have hF := hide' (hR1.out _ h0 hB3.out)
    have h0' : (chkF F == 0) = false := by rw [beq_eq_false_iff_ne]; exact h0
    clear hR1 hR2 hX3
    generalize chkF F = z at *
    go_wp2
    exact hF.out
  rw [h0]
  have hX' := hide' hX
  have HF : Hid (∀ lv' w', Below w.heap.size w w' → RnX V0 F gr gt sv rv go gp gs ct Pf Sf P1 P2 lv' (rpR Pf (newR F.steps.length (ftk L)) L) w' → ((rpR Pf (newR F.steps.length (ftk L)) L).log = L → QQ (.returned (.tuple #[.pointer (some ⟨gr, 0, none⟩), .int .i64 0])) w') ∧ ((rpR Pf (newR F.steps.length (ftk L)) L).log ≠ L → QQ (.returned (.tuple #[.pointer none, .int .i64 3])) w')) := fun lv' w' h1 h2 => hR2.out _ _ _ _ _ _ _ _ _ _ _ _ _ w2 lv' w' ⟨B2w.out, hbV⟩ ok h1 h2
  have hBV : Hid (∀ V, Below V0.heap.size V0 V → Below w.heap.size w V) := fun V hV => by
    have h1 := B2w.out.trans (hbV.1.mono B2w.out.size)
    exact h1.trans (hV.mono h1.size)
  clear hR1 hR2 hX3 hX h0 ok hbV hB3 B2w
  generalize F.steps.length = nf at *
  generalize ftk L = t0 at *
  have hlen : Hid (∀ l : List Ev, l.length ≤ 1000 → (rpR Pf (newR nf t0) l).log.length ≤ 100000) := fun l h => by
    have := rpR_len Pf l (newR nf t0)
    rw [show (newR nf t0).log.length = 1 from rfl] at this
    omega
  go_wp2
  go_loopw [9, 22] (fun _ k wr => ∃ (c : Nat) (lv : Value), c ≤ L.length ∧ k = .int .i64 c ∧ Hid (RnX V0 F gr gt sv rv go gp gs ct Pf Sf P1 P2 lv (rpR Pf (newR nf t0) (L.take c)) wr)) (fun _ k _ => ((L.length : Int) - intOf k).toNat)
  case atStart => exact ⟨0, lv, Nat.zero_le _, rfl, hX'⟩
  case round =>
    as_aux_lemma =>
    clear hX'
    obtain ⟨c, lv, hc, rfl, hX⟩ := hrel
    by_cases hlt : c < L.length
    · obtain ⟨e, hx⟩ : ∃ x, L[c]? = some x := ⟨_, List.getElem?_eq_getElem hlt⟩
      obtain ⟨_, _, e1, _, h1⟩ := hl0.out wr (hBV.out _ hX.out.bl)
      injection e1 with e1 _ e1c
      subst e1 e1c
      obtain ⟨g1, f1, rfl, a0, a1, a2, a3⟩ := h1 c e hx
      have KA : Hid (∀ V, Below wr.heap.size wr V → Calls Tryz.prog 48 #[.pointer (some ⟨gr, 0, none⟩), .agg #[.int .i64 e.tick, .int .i64 e.kind, .int .i64 e.step, .int .i64 e.user]] V fun x w' => x = .returned (.tuple #[]) ∧ ∃ lv', RnX V0 F gr gt sv rv go gp gs ct Pf Sf P1 P2 lv' (rpR Pf (newR nf t0) (L.take (c + 1))) w') := fun V hV => by
        rw [rpR_take Pf _ hx]
        exact againF (hX.out.over hV) (hlen.out _ (by rw [List.length_take]; omega)) e
      have hbA := hide' ((Below.refl _ wr).alloc (Nat.le_refl _) (.cells #[.int .i64 e.tick, .int .i64 e.kind, .int .i64 e.step, .int .i64 e.user] 76))
      have K1 := hide' (KA.out _ hbA.out)
      obtain ⟨x0, x1, x2, x3⟩ := bx4 (heap_alloc_new wr (.cells #[.int .i64 e.tick, .int .i64 e.kind, .int .i64 e.step, .int .i64 e.user] 76))
      clear hl0 hBV hX h1 hx HF hlen KA hbA
      generalize e.tick = s0 at *
      generalize e.kind = s1 at *
      generalize e.step = s2 at *
      generalize e.user = s3 at *
      go_wp2_with fail
      refine K1.out.mono ?_
      rintro e w2 ⟨rfl, lv', hX2⟩
      have hX' := hide' hX2
      clear K1 hX2 x0 x1 x2 x3 a0 a1 a2 a3
      go_wp2
      exact ⟨⟨c + 1, lv', by omega, by go_num, hX'⟩, by simp [intOf]; omega⟩
    · obtain rfl : c = L.length := by omega
      rw [List.take_length] at hX
      have KL := hide' (logF hX.out.run (rpR_ne Pf nf t0 L) (hlen.out L hn))
      have hB5 := hide' (hBV.out _ hX.out.bl)
      have HF2 : Hid (∀ w', Below wr.heap.size wr w' → ((rpR Pf (newR nf t0) L).log = L → QQ (.returned (.tuple #[.pointer (some ⟨gr, 0, none⟩), .int .i64 0])) w') ∧ ((rpR Pf (newR nf t0) L).log ≠ L → QQ (.returned (.tuple #[.pointer none, .int .i64 3])) w')) := fun w' h => HF.out lv w' (hB5.out.trans (h.mono hB5.out.size)) (hX.out.over h)
      clear HF hlen hX
      generalize rpR Pf (newR nf t0) L = R at *
      clear hBV
      go_wp2_with fail
      refine KL.out.mono ?_
      rintro e w5 ⟨v5, rfl, ho, hb5⟩
      have hE5 : EvQ w5 v5 R.log := .of_owns ho
      have KE := hide' (equalEv R.log L v5 _ w5 hE5 (hl0.out _ (hB5.out.trans (hb5.mono hB5.out.size))) (by omega))
      obtain ⟨o5, c5, rfl⟩ := own_shp ho
      have HF5 := hide' (fun w' (h : Below w5.heap.size w5 w') => HF2.out w' (hb5.trans (h.mono hb5.size)))
      clear KL ho hE5 hl0 hB5 HF2 hb5
      go_wp2_with fail
      refine KE.out.mono ?_
      rintro e w6 ⟨rfl, hb6⟩
      obtain ⟨hQ1, hQ2⟩ := HF5.out _ hb6
      clear KE HF5 hb6
      by_cases hd : R.log = L
      · have hF := hide' (hQ1 hd)
        rw [decide_eq_true hd]
        clear hQ1 hQ2 hd
        go_wp2
        exact hF.out
      · have hF := hide' (hQ2 hd)
        rw [decide_eq_false hd]
        clear hQ1 hQ2 hd
        go_wp2
        exact hF.out
end Go.Proofs.YtahfobbiaimoiaaGreatDoor
namespace Go.Proofs.YtahfobbiaimoiaaGreatDoor
open Go.RowKit
/-- What played answers. -/
def PyP (F : Fw) (L : List Oq) (w : World) (e : Ending) (w' : World) : Prop :=
  ∃ pa, e = .returned (.pointer pa) ∧ Below w.heap.size w w' ∧ ((pa = none ∧ chkF F ≠ 0) ∨ (FlOk F ∧ ∃ V0 gr gt sv rv go gp gs ct Pf Sf P1 P2 lv wN, pa = some ⟨gr, 0, none⟩ ∧ (Below w.heap.size w wN ∧ OgX wN V0 go gp gs sv rv P1 P2) ∧ RnX V0 F gr gt sv rv go gp gs ct Pf Sf P1 P2 lv (plyL true Pf (newR F.steps.length 0) (L.take 200)) w'))
theorem rowQ_over {w w' : World} {v : Value} {L : List Oq} (h : RowQ w v L) (hb : Below w.heap.size w w') : RowQ w' v L := by
  obtain ⟨oa, cap, e, hc, h⟩ := h
  refine ⟨oa, cap, e, hc, fun i o ho => ?_⟩
  obtain ⟨g, f, e, h0, h1, h2, h3, h4, h5⟩ := h i o ho
  exact ⟨g, f, e, (hb.cell (cell_lt h0)).trans h0, (hb.cell (cell_lt h1)).trans h1, (hb.cell (cell_lt h2)).trans h2, (hb.cell (cell_lt h3)).trans h3, (hb.cell (cell_lt h4)).trans h4, (hb.cell (cell_lt h5)).trans h5⟩
set_option maxRecDepth 100000 in
set_option maxHeartbeats 8000000 in
theorem playedF (F : Fw) (L : List Oq) (v lv0 : Value) (w : World) (hv : flV w v F) (hc : cutFw F = F) (hB : FlB F) (hL : RowQ w lv0 L) (ht : O.Tab w) : Calls Tryz.prog 33 #[v, lv0] w (PyP F L w) := by
  have KT : Hid (∀ W, Below w.heap.size w W → Calls Tryz.prog 9 #[v] W (CopR W F)) := fun W hW => by
    have := twin7F F v W (hv.below hW (Nat.le_refl _))
    rwa [hc] at this
  have KN : Hid (∀ W x, flV W x F → Below w.heap.size w W → Calls Tryz.prog 46 #[x, .int .i64 0] W (NewP F 0 W)) := fun W x hx hW => newRF F x 0 W hx hB (ht.over hW)
  obtain ⟨sv0, rv0, rfl, hs, hr⟩ := hv
  obtain ⟨oa, cap, rfl⟩ := hs.shape
  obtain ⟨ob, cb, rfl⟩ := hr.shape
  have hL0 := hide' (fun V (hV : Below w.heap.size w V) => rowQ_over hL hV)
  obtain ⟨ol, cl, rfl, hcl, _⟩ := hL
  have hL' : Hid (∀ V, Below w.heap.size w V → ∀ i o, L[i]? = some o → ∃ g f, ol = some ⟨g, f, none⟩ ∧ V.cell? ⟨g, f + i * 6, none⟩ = some (.int .i64 o.on) ∧ V.cell? ⟨g, f + i * 6 + 1, none⟩ = some (.int .i64 o.op) ∧ V.cell? ⟨g, f + i * 6 + 2, none⟩ = some (.int .i64 o.step) ∧ V.cell? ⟨g, f + i * 6 + 3, none⟩ = some (.int .i64 o.user) ∧ V.cell? ⟨g, f + i * 6 + 4, none⟩ = some (.int .i64 o.tick) ∧ V.cell? ⟨g, f + i * 6 + 5, none⟩ = some (.bool o.stuck)) := fun V hV i o ho => by
    obtain ⟨_, _, e, _, h⟩ := hL0.out V hV
    injection e with e _ _
    subst e
    exact h i o ho
  clear hL0
  have hR1 : Hid (chkF F ≠ 0 → ∀ w', Below w.heap.size w w' → PyP F L w (.returned (.pointer none)) w') := fun h1 w' h2 => ⟨_, rfl, h2, .inl ⟨rfl, h1⟩⟩
  have hR2 : Hid (FlOk F → ∀ V0 gr gt sv rv go gp gs ct Pf Sf P1 P2 wN lv w', (Below w.heap.size w wN ∧ OgX wN V0 go gp gs sv rv P1 P2) → RnX V0 F gr gt sv rv go gp gs ct Pf Sf P1 P2 lv (plyL true Pf (newR F.steps.length 0) (L.take 200)) w' → PyP F L w (.returned (.pointer (some ⟨gr, 0, none⟩))) w') := fun ok V0 gr gt sv rv go gp gs ct Pf Sf P1 P2 wN lv w' hN hX => ⟨_, rfl, by
    have h1 := hN.1.trans (hN.2.1.mono hN.1.size)
    exact h1.trans (hX.bl.mono h1.size), .inr ⟨ok, V0, gr, gt, sv, rv, go, gp, gs, ct, Pf, Sf, P1, P2, lv, wN, rfl, hN, hX⟩⟩
  clear hs hr hB ht
  generalize PyP F L w = QQ at *
  have B0 : Hid (Below w.heap.size w (w.alloc (.cells #[.string F.name, .slice oa F.steps.length cap, .slice ob F.rules.length cb] 25))) := (Below.refl _ w).alloc (Nat.le_refl _) _
  obtain ⟨x0, x1, x2⟩ := bx3 (heap_alloc_new w (.cells #[.string F.name, .slice oa F.steps.length cap, .slice ob F.rules.length cb] 25))
  go_enter Tryz.func33, Tryz.ntmps33
  go_wp2_with fail
  generalize w.alloc (.cells #[.string F.name, .slice oa F.steps.length cap, .slice ob F.rules.length cb] 25) = W1 at *
  clear x0 x1 x2
  refine (KT.out _ B0.out).mono ?_
  intro e w2 hC
  obtain ⟨o1, c1, o2, c2, P1, P2, rfl, hF2, hb2⟩ := CopR.open hC
  have B2 := hide' (B0.out.trans (hb2.mono B0.out.size))
  have K2 := hide' (KN.out w2 _ hF2.fl B2.out)
  clear KT KN hC hF2 hb2 B0
  go_wp2_with fail
  refine K2.out.mono ?_
  intro e w3 hN
  obtain ⟨pa, rfl, hb3, hX⟩ := hN.oneX
  have B3 := hide' (B2.out.trans (hb3.mono B2.out.size))
  clear K2 hN hb3
  rcases hX with ⟨rfl, h0⟩ | ⟨ok, h0, V0, gr, gt, sv, rv, go, gp, gs, ct, Pf, Sf, Q1, Q2, lv, rfl, hbV, hX⟩
  · have hF := hide' (hR1.out h0 _ B3.out)
    clear hR1 hR2 h0 hL' B2 B3
    generalize chkF F = z at *
    by_cases hlt : 0 < L.length
    · have hlt' : (0 : Int) < (L.length : Int) := by omega
      go_wp2
      go_loopw [7] (fun j wr => j = .int .i64 0 ∧ wr = w3) (fun _ _ => 1)
      case atStart => exact ⟨rfl, rfl⟩
      case round =>
        obtain ⟨rfl, rfl⟩ := hrel
        go_wp2
        exact hF.out
    · have hlt' : ¬ (0 : Int) < (L.length : Int) := by omega
      go_wp2
      go_loopw [7] (fun j wr => j = .int .i64 0 ∧ wr = w3) (fun _ _ => 1)
      case atStart => exact ⟨rfl, rfl⟩
      case round =>
        obtain ⟨rfl, rfl⟩ := hrel
        go_wp2
        exact hF.out
  have hBV := hide' (B2.out.trans (hbV.1.mono B2.out.size))
  have hNN := hide' (And.intro B2.out hbV)
  have HF := hide' (fun lv' w' => hR2.out ok V0 gr gt sv rv go gp gs ct Pf Sf Q1 Q2 w2 lv' w' hNN.out)
  have hbw : Hid (∀ V, Below V0.heap.size V0 V → Below w.heap.size w V) := fun V hV => hBV.out.trans (hV.mono hBV.out.size)
  have hX3 := hide' hX
  rw [h0]
  clear hR1 hR2 h0 ok hX hbV B2 B3 hNN hBV
  generalize F.steps.length = nf at *
  have hlen : Hid (∀ c : Nat, c ≤ 200 → (plyL true Pf (newR nf 0) (L.take c)).log.length ≤ 100000) := fun c h => by
    have := plyL_log true Pf (L.take c) (newR nf 0)
    rw [show (newR nf 0).log.length = 1 from rfl, List.length_take] at this
    omega
  go_wp2
  go_loopw [7] (fun j wr => ∃ (c : Nat) (lv : Value), c ≤ L.length ∧ c ≤ 200 ∧ j = .int .i64 c ∧ Hid (RnX V0 F gr gt sv rv go gp gs ct Pf Sf Q1 Q2 lv (plyL true Pf (newR nf 0) (L.take c)) wr)) (fun j _ => ((200 : Int) - intOf j).toNat)
  case atStart => exact ⟨0, lv, Nat.zero_le _, Nat.zero_le _, rfl, hX3⟩
  case round =>
    clear hX3
    obtain ⟨c, lv, hcl1, hc200, rfl, hX⟩ := hrel
    by_cases hgo : c < L.length ∧ c < 200
    · obtain ⟨hlt, h200⟩ := hgo
      obtain ⟨q, hx⟩ : ∃ x, L[c]? = some x := ⟨_, List.getElem?_eq_getElem hlt⟩
      have hbr := hide' (hbw.out _ hX.out.bl)
      obtain ⟨g, f, rfl, d0, d1, d2, d3, d4, d5⟩ := hL'.out wr hbr.out c q hx
      have hcl2 : Hid (∀ V, Below w.heap.size w V → V.cell? ⟨g, f + c * 6 + 2, none⟩ = some (.int .i64 q.step) ∧ V.cell? ⟨g, f + c * 6 + 3, none⟩ = some (.int .i64 q.user) ∧ V.cell? ⟨g, f + c * 6 + 4, none⟩ = some (.int .i64 q.tick) ∧ V.cell? ⟨g, f + c * 6 + 5, none⟩ = some (.bool q.stuck)) := fun V hV => by
        obtain ⟨_, _, e, _, _, h2, h3, h4, h5⟩ := hL'.out V hV c q hx
        cases e
        exact ⟨h2, h3, h4, h5⟩
      have hcq1 := hcl.1
      clear hL' hcl
      by_cases k1 : q.op = 1
      · as_aux_lemma =>
        have K1 : Hid (∀ V, Below wr.heap.size wr V → Calls Tryz.prog 34 #[.pointer (some ⟨gr, 0, none⟩), .int .i64 q.step, .int .i64 q.user, .int .i64 q.tick] V fun e w' => e = .returned (.int .i64 (canC Pf (plyL true Pf (newR nf 0) (L.take c)) q.step)) ∧ ∃ lv', RnX V0 F gr gt sv rv go gp gs ct Pf Sf Q1 Q2 lv' (plyL true Pf (newR nf 0) (L.take (c + 1))) w') := fun V hV => by
          rw [take_nextQ true Pf _ hx, ply1 k1]
          exact (hX.out.over hV).claimC (hlen.out c (by omega)) q.step q.user q.tick
        clear hX HF hx hlen
        rw [k1] at d1
        skip
        generalize q.on = a0 at *
        generalize q.step = a1 at *
        generalize q.user = a2 at *
        generalize q.tick = a3 at *
        generalize q.stuck = a4 at *
        go_upto_region 7 with fail
        have hd : Hid (Below wr.heap.size wr wr.drew) := (Below.refl _ wr).drew
        go_region_held3 (fun V => V.cell? ⟨g, f + c * 6 + 2, none⟩ = some (.int .i64 a1) ∧ V.cell? ⟨g, f + c * 6 + 3, none⟩ = some (.int .i64 a2) ∧ V.cell? ⟨g, f + c * 6 + 4, none⟩ = some (.int .i64 a3) ∧ V.cell? ⟨g, f + c * 6 + 5, none⟩ = some (.bool a4)) (first | (exact hcl2.out _ (hbw.out _ hX5.out.bl)) | (exact hcl2.out _ (hbr.out.trans (hd.out.mono hbr.out.size)))) (first | (go_at_call 34; refine (K1.out _ hd.out).mono ?_; rintro e w5 ⟨rfl, lv', hX5a⟩; have hX5 := hide' hX5a; clear hX5a; (try dsimp only)))
        go_wp2
        exact ⟨⟨c + 1, lv', by omega, by omega, by go_num, hX5⟩, by simp [intOf]; omega⟩
      have n1 : (q.op == 1) = false := by rw [beq_eq_false_iff_ne]; exact k1
      by_cases k2 : q.op = 2
      · as_aux_lemma =>
        have K1 : Hid (∀ V, Below wr.heap.size wr V → Calls Tryz.prog 35 #[.pointer (some ⟨gr, 0, none⟩), .int .i64 q.step, .int .i64 q.user, .int .i64 q.tick] V fun e w' => e = .returned (.int .i64 (canD (plyL true Pf (newR nf 0) (L.take c)) q.step q.user)) ∧ ∃ lv', RnX V0 F gr gt sv rv go gp gs ct Pf Sf Q1 Q2 lv' (plyL true Pf (newR nf 0) (L.take (c + 1))) w') := fun V hV => by
          rw [take_nextQ true Pf _ hx, ply2 k2]
          exact (hX.out.over hV).doneC (hlen.out c (by omega)) q.step q.user q.tick
        clear hX HF hx hlen
        rw [k2] at d1
        skip
        generalize q.on = a0 at *
        generalize q.step = a1 at *
        generalize q.user = a2 at *
        generalize q.tick = a3 at *
        generalize q.stuck = a4 at *
        go_upto_region 9 with fail
        have hd : Hid (Below wr.heap.size wr wr.drew) := (Below.refl _ wr).drew
        go_region_held3 (fun V => V.cell? ⟨g, f + c * 6 + 2, none⟩ = some (.int .i64 a1) ∧ V.cell? ⟨g, f + c * 6 + 3, none⟩ = some (.int .i64 a2) ∧ V.cell? ⟨g, f + c * 6 + 4, none⟩ = some (.int .i64 a3) ∧ V.cell? ⟨g, f + c * 6 + 5, none⟩ = some (.bool a4)) (first | (exact hcl2.out _ (hbw.out _ hX5.out.bl)) | (exact hcl2.out _ (hbr.out.trans (hd.out.mono hbr.out.size)))) (first | (go_at_call 35; refine (K1.out _ hd.out).mono ?_; rintro e w5 ⟨rfl, lv', hX5a⟩; have hX5 := hide' hX5a; clear hX5a; (try dsimp only)))
        go_wp2
        exact ⟨⟨c + 1, lv', by omega, by omega, by go_num, hX5⟩, by simp [intOf]; omega⟩
      have n2 : (q.op == 2) = false := by rw [beq_eq_false_iff_ne]; exact k2
      by_cases k3 : q.op = 3
      · as_aux_lemma =>
        have K1 : Hid (∀ V, Below wr.heap.size wr V → Calls Tryz.prog 66 #[.pointer (some ⟨gr, 0, none⟩), .int .i64 q.tick] V fun e w' => e = .returned (.int .i64 (if endd (plyL true Pf (newR nf 0) (L.take c)) = true then 30 else 0)) ∧ ∃ lv', RnX V0 F gr gt sv rv go gp gs ct Pf Sf Q1 Q2 lv' (plyL true Pf (newR nf 0) (L.take (c + 1))) w') := fun V hV => by
          rw [take_nextQ true Pf _ hx, ply3 k3]
          exact (hX.out.over hV).abortC (hlen.out c (by omega)) q.tick
        clear hX HF hx hlen
        rw [k3] at d1
        generalize (if endd (plyL true Pf (newR nf 0) (L.take c)) = true then (30 : Int) else 0) = zz at K1
        generalize q.on = a0 at *
        generalize q.step = a1 at *
        generalize q.user = a2 at *
        generalize q.tick = a3 at *
        generalize q.stuck = a4 at *
        have K2 := hide' (K1.out _ (Below.refl _ wr))
        clear K1
        go_wp2_with fail
        refine K2.out.mono ?_
        rintro e w5 ⟨rfl, lv', hX5a⟩
        have hX5 := hide' hX5a
        clear hX5a K2 d0 d1 d2 d3 d4 d5
        go_wp2
        exact ⟨⟨c + 1, lv', by omega, by omega, by go_num, hX5⟩, by simp [intOf]; omega⟩
      have n3 : (q.op == 3) = false := by rw [beq_eq_false_iff_ne]; exact k3
      by_cases k4 : q.op = 4
      · as_aux_lemma =>
        have K1 : Hid (∀ V, Below wr.heap.size wr V → Calls Tryz.prog 36 #[.pointer (some ⟨gr, 0, none⟩), .bool q.stuck, .int .i64 q.tick] V fun e w' => e = .returned (.bool (mrkB (plyL true Pf (newR nf 0) (L.take c)) q.stuck)) ∧ ∃ lv', RnX V0 F gr gt sv rv go gp gs ct Pf Sf Q1 Q2 lv' (plyL true Pf (newR nf 0) (L.take (c + 1))) w') := fun V hV => by
          rw [take_nextQ true Pf _ hx, ply4 k4]
          exact (hX.out.over hV).markC (hlen.out c (by omega)) q.stuck q.tick
        clear hX HF hx hlen
        rw [k4] at d1
        skip
        generalize q.on = a0 at *
        generalize q.step = a1 at *
        generalize q.user = a2 at *
        generalize q.tick = a3 at *
        generalize q.stuck = a4 at *
        go_upto_region 13 with fail
        have hd : Hid (Below wr.heap.size wr wr.drew) := (Below.refl _ wr).drew
        go_region_held3 (fun V => V.cell? ⟨g, f + c * 6 + 2, none⟩ = some (.int .i64 a1) ∧ V.cell? ⟨g, f + c * 6 + 3, none⟩ = some (.int .i64 a2) ∧ V.cell? ⟨g, f + c * 6 + 4, none⟩ = some (.int .i64 a3) ∧ V.cell? ⟨g, f + c * 6 + 5, none⟩ = some (.bool a4)) (first | (exact hcl2.out _ (hbw.out _ hX5.out.bl)) | (exact hcl2.out _ (hbr.out.trans (hd.out.mono hbr.out.size)))) (first | (go_at_call 36; refine (K1.out _ hd.out).mono ?_; rintro e w5 ⟨rfl, lv', hX5a⟩; have hX5 := hide' hX5a; clear hX5a; (try dsimp only)))
        go_wp2
        exact ⟨⟨c + 1, lv', by omega, by omega, by go_num, hX5⟩, by simp [intOf]; omega⟩
      have n4 : (q.op == 4) = false := by rw [beq_eq_false_iff_ne]; exact k4
      have hX5 : Hid (RnX V0 F gr gt sv rv go gp gs ct Pf Sf Q1 Q2 lv (plyL true Pf (newR nf 0) (L.take (c + 1))) wr) := by
        show RnX _ _ _ _ _ _ _ _ _ _ _ _ _ _ _ _ _
        rw [take_nextQ true Pf _ hx, ply0 k1 k2 (fun _ => k3) k4]
        exact hX.out
      clear hX HF hx hlen
      generalize q.op = a9 at *
      go_wp2
      exact ⟨⟨c + 1, lv, by omega, by omega, by go_num, hX5⟩, by simp [intOf]; omega⟩
    · have hF : Hid (QQ (.returned (.pointer (some ⟨gr, 0, none⟩))) wr) := HF.out lv wr (by
        have : L.take c = L.take 200 := by
          by_cases h : c < L.length
          · have : c = 200 := by omega
            rw [this]
          · rw [List.take_of_length_le (by omega), List.take_of_length_le (by omega)]
        rw [← this]; exact hX.out)
      clear HF hX hL' hlen hbw
      by_cases hlt : c < L.length
      · have h200 : ¬ c < 200 := fun h => hgo ⟨hlt, h⟩
        clear hgo
        go_wp2
        exact hF.out
      · clear hgo
        go_wp2
        exact hF.out
end Go.Proofs.YtahfobbiaimoiaaGreatDoor
