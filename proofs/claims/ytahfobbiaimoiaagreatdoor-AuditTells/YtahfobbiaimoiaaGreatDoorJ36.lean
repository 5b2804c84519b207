/- Audit: a log read; firstTick, again, Equal. -/
import Derived.Test.YtahfobbiaimoiaaGreatDoorJ15
import Derived.Test.YtahfobbiaimoiaaGreatDoorJ32
import Derived.Test.YtahfobbiaimoiaaGreatDoorJ35
namespace Go.Proofs.YtahfobbiaimoiaaGreatDoor
open Go.RowKit
/-- A row of events, wherever it lies. -/
def EvQ (w : World) (v : Value) (L : List Ev) : Prop := ∃ oa cap, v = .slice oa L.length cap ∧ (L.length ≤ cap ∧ (oa = none → cap = 0)) ∧ ∀ i e, L[i]? = some e → ∃ g f, oa = some ⟨g, f, none⟩ ∧ w.cell? ⟨g, f + i * 4, none⟩ = some (.int .i64 e.tick) ∧ w.cell? ⟨g, f + i * 4 + 1, none⟩ = some (.int .i64 e.kind) ∧ w.cell? ⟨g, f + i * 4 + 2, none⟩ = some (.int .i64 e.step) ∧ w.cell? ⟨g, f + i * 4 + 3, none⟩ = some (.int .i64 e.user)
theorem EvQ.over {w w' : World} {v : Value} {L : List Ev} (h : EvQ w v L) (hb : Below w.heap.size w w') : EvQ w' v L := by
  obtain ⟨oa, cap, e, hc, h⟩ := h
  refine ⟨oa, cap, e, hc, fun i x hx => ?_⟩
  obtain ⟨g, f, e, h0, h1, h2, h3⟩ := h i x hx
  exact ⟨g, f, e, (hb.cell (cell_lt h0)).trans h0, (hb.cell (cell_lt h1)).trans h1, (hb.cell (cell_lt h2)).trans h2, (hb.cell (cell_lt h3)).trans h3⟩
theorem EvQ.of_owns {W : World} {B : Nat} {v : Value} {L : List Ev} (h : W.ownsRow B 76 4 v L.length (cellsEv L)) : EvQ W v L := by
  have h0 := h
  rcases h.2 with ⟨rfl, e0⟩ | ⟨g, cap, cs, rfl, _, _, hc, _⟩
  · have : L = [] := List.eq_nil_of_length_eq_zero e0
    subst this
    exact ⟨none, 0, rfl, ⟨Nat.le_refl _, fun _ => rfl⟩, fun i e h => by cases h⟩
  · refine ⟨some ⟨g, 0, none⟩, cap, rfl, ⟨hc, fun e => by cases e⟩, fun i e he => ?_⟩
    obtain ⟨a0, a1, a2, a3⟩ := evAt h0 (List.getElem?_eq_some_iff.1 he).1 he
    exact ⟨g, 0, rfl, by rw [Nat.zero_add]; exact a0, by rw [Nat.zero_add]; exact a1, by rw [Nat.zero_add]; exact a2, by rw [Nat.zero_add]; exact a3⟩
set_option maxRecDepth 100000 in
theorem firstF (L : List Ev) (v : Value) (w : World) (h : EvQ w v L) :
    Calls Tryz.prog 47 #[v] w fun e w' => e = .returned (.int .i64 (ftk L)) ∧ Below w.heap.size w w' := by
  obtain ⟨oa, cap, rfl, hc, h⟩ := h
  have hB := hide' (Below.refl w.heap.size w)
  cases L with
  | nil =>
    clear h
    have hl : ([] : List Ev).length = 0 := rfl
    rw [hl]
    go_enter Tryz.func47, Tryz.ntmps47
    go_wp2
    go_ret
    exact ⟨rfl, hB.out⟩
  | cons x t =>
    obtain ⟨g, f, rfl, h0, h1, h2, h3⟩ := h 0 x rfl
    rw [Nat.zero_mul, Nat.add_zero] at h0
    have hl : (x :: t).length = t.length + 1 := rfl
    rw [hl] at hc ⊢
    have hne : ((t.length + 1 : Nat) : Int) ≠ 0 := by omega
    have hne' : (((t.length + 1 : Nat) : Int) == 0) = false := by rw [beq_eq_false_iff_ne]; exact hne
    have hpos : (0 : Int) < ((t.length + 1 : Nat) : Int) := by omega
    have hf : ftk (x :: t) = x.tick := rfl
    rw [hf]
    obtain ⟨hc1, _⟩ := hc
    clear h h1 h2 h3 hf hl
    generalize x.tick = z at *
    generalize t.length + 1 = n at *
    go_enter Tryz.func47, Tryz.ntmps47
    go_wp2
    go_ret
    exact ⟨rfl, hB.out⟩
section
variable {V0 : World} {F : Fw} {gr gt : Nat} {sv rv : Value} {go gp gs ct : Nat} {Pf Sf : Nat → Nat} {P1 : List (Sp × Value)} {P2 : List (Rl × Value)} {lv : Value} {R : Rs} {W : World}
set_option maxRecDepth 100000 in
set_option maxHeartbeats 2000000 in
/-- The call of an event. -/
theorem againF (h : RnX V0 F gr gt sv rv go gp gs ct Pf Sf P1 P2 lv R W) (hl : R.log.length ≤ 100000) (e : Ev) :
    Calls Tryz.prog 48 #[.pointer (some ⟨gr, 0, none⟩), .agg #[.int .i64 e.tick, .int .i64 e.kind, .int .i64 e.step, .int .i64 e.user]] W fun x w' => x = .returned (.tuple #[]) ∧ ∃ lv', RnX V0 F gr gt sv rv go gp gs ct Pf Sf P1 P2 lv' (agR Pf R e) w' := by
  obtain ⟨t, k, s, u⟩ := e
  show Calls Tryz.prog 48 #[.pointer (some ⟨gr, 0, none⟩), .agg #[.int .i64 t, .int .i64 k, .int .i64 s, .int .i64 u]] W _
  have h1 := h.over ((Below.refl _ W).alloc (Nat.le_refl _) (.cells #[.int .i64 t, .int .i64 k, .int .i64 s, .int .i64 u] 76))
  obtain ⟨x0, x1, x2, x3⟩ := bx4 (heap_alloc_new W (.cells #[.int .i64 t, .int .i64 k, .int .i64 s, .int .i64 u] 76))
  by_cases k2 : k = 2
  · subst k2
    have K := hide' (h1.claimC hl s u t)
    rw [show agR Pf R ⟨t, 2, s, u⟩ = clmR Pf R s u t from rfl]
    clear h h1
    go_enter Tryz.func48, Tryz.ntmps48
    go_wp2_with fail
    refine K.out.mono ?_
    rintro e w1 ⟨rfl, lv', hX⟩
    have hX' := hide' hX
    clear K hX x0 x1 x2 x3
    go_wp2
    go_end0
    exact ⟨rfl, _, hX'.out⟩
  have n2 : (k == 2) = false := by rw [beq_eq_false_iff_ne]; exact k2
  by_cases k3 : k = 3
  · subst k3
    have K := hide' (h1.doneC hl s u t)
    rw [show agR Pf R ⟨t, 3, s, u⟩ = donR R s u t from rfl]
    clear h h1
    go_enter Tryz.func48, Tryz.ntmps48
    go_wp2_with fail
    refine K.out.mono ?_
    rintro e w1 ⟨rfl, lv', hX⟩
    have hX' := hide' hX
    clear K hX x0 x1 x2 x3
    go_wp2
    go_end0
    exact ⟨rfl, _, hX'.out⟩
  have n3 : (k == 3) = false := by rw [beq_eq_false_iff_ne]; exact k3
  by_cases k4 : k = 4
  · subst k4
    have K := hide' (h1.abortC hl t)
    generalize (if endd R = true then (30 : Int) else 0) = zz at K
    rw [show agR Pf R ⟨t, 4, s, u⟩ = aboR R t from rfl]
    clear h h1
    go_enter Tryz.func48, Tryz.ntmps48
    go_wp2_with fail
    refine K.out.mono ?_
    rintro e w1 ⟨rfl, lv', hX⟩
    have hX' := hide' hX
    clear K hX x0 x1 x2 x3
    go_wp2
    go_end0
    exact ⟨rfl, _, hX'.out⟩
  have n4 : (k == 4) = false := by rw [beq_eq_false_iff_ne]; exact k4
  by_cases k5 : k = 5
  · subst k5
    have K := hide' (h1.markC hl true t)
    rw [show agR Pf R ⟨t, 5, s, u⟩ = mrkR R true t from rfl]
    clear h h1
    go_enter Tryz.func48, Tryz.ntmps48
    go_wp2_with fail
    refine K.out.mono ?_
    rintro e w1 ⟨rfl, lv', hX⟩
    have hX' := hide' hX
    clear K hX x0 x1 x2 x3
    go_wp2
    go_end0
    exact ⟨rfl, _, hX'.out⟩
  have n5 : (k == 5) = false := by rw [beq_eq_false_iff_ne]; exact k5
  by_cases k6 : k = 6
  · subst k6
    have K := hide' (h1.markC hl false t)
    rw [show agR Pf R ⟨t, 6, s, u⟩ = mrkR R false t from rfl]
    clear h h1
    go_enter Tryz.func48, Tryz.ntmps48
    go_wp2_with fail
    refine K.out.mono ?_
    rintro e w1 ⟨rfl, lv', hX⟩
    have hX' := hide' hX
    clear K hX x0 x1 x2 x3
    go_wp2
    go_end0
    exact ⟨rfl, _, hX'.out⟩
  have n6 : (k == 6) = false := by rw [beq_eq_false_iff_ne]; exact k6
  rw [show agR Pf R ⟨t, k, s, u⟩ = R by unfold agR; simp [k2, k3, k4, k5, k6]]
  have hX' := hide' h1
  clear h h1
  go_enter Tryz.func48, Tryz.ntmps48
  go_wp2_with fail
  go_end0
  exact ⟨rfl, _, hX'.out⟩
end
theorem ev_cmp (a b c d a' b' c' d' : Int) (w : World) : (Op.equalIn 10000 76 (.agg #[.int .i64 a, .int .i64 b, .int .i64 c, .int .i64 d]) (.agg #[.int .i64 a', .int .i64 b', .int .i64 c', .int .i64 d'])).run Tryz.prog w = .ok (decide ((⟨a, b, c, d⟩ : Ev) = ⟨a', b', c', d'⟩)) w := by
  have u3 := Tryz.underlying3
  have a3 := Tryz.isAgg3
  have z3 := Tryz.sizeOf3
  rw [show (10000 : Nat) = 9999 + 1 from rfl, run_equalIn_struct w 9999 _ _ _ (by simp [Program.fieldsOf, Tryz.underlying76]) (by kernel_rfl)]
  simp only [Program.fieldsOf, Tryz.underlying76]
  by_cases h1 : a = a'
  · subst h1
    by_cases h2 : b = b'
    · subst h2
      by_cases h3 : c = c'
      · subst h3
        by_cases h4 : d = d'
        · subst h4
          go_simp
        · have h4' : (d == d') = false := by rw [beq_eq_false_iff_ne]; exact h4
          have he : ¬ ((⟨a, b, c, d⟩ : Ev) = ⟨a, b, c, d'⟩) := fun e => h4 (by injection e)
          rw [decide_eq_false he]
          go_simp
      · have h3' : (c == c') = false := by rw [beq_eq_false_iff_ne]; exact h3
        have he : ¬ ((⟨a, b, c, d⟩ : Ev) = ⟨a, b, c', d'⟩) := fun e => h3 (by injection e)
        rw [decide_eq_false he]
        go_simp
    · have h2' : (b == b') = false := by rw [beq_eq_false_iff_ne]; exact h2
      have he : ¬ ((⟨a, b, c, d⟩ : Ev) = ⟨a, b', c', d'⟩) := fun e => h2 (by injection e)
      rw [decide_eq_false he]
      go_simp
  · have h1' : (a == a') = false := by rw [beq_eq_false_iff_ne]; exact h1
    have he : ¬ ((⟨a, b, c, d⟩ : Ev) = ⟨a', b', c', d'⟩) := fun e => h1 (by injection e)
    rw [decide_eq_false he]
    go_simp
theorem take_eqE {A L : List Ev} {c : Nat} (h : A.take c = L.take c) {x y : Ev} (hx : A[c]? = some x) (hy : L[c]? = some y) (e : x = y) : A.take (c + 1) = L.take (c + 1) := by
  rw [List.take_add_one, List.take_add_one, hx, hy, h, e]
set_option maxRecDepth 100000 in
set_option maxHeartbeats 2000000 in
/-- Equal of two rows of events. -/
theorem equalEv (A L : List Ev) (va vb : Value) (w : World) (ha : EvQ w va A) (hb : EvQ w vb L) (hl : L.length ≤ 100000) :
    Calls Tryz.prog 49 #[va, vb] w fun e w' => e = .returned (.bool (decide (A = L))) ∧ Below w.heap.size w w' := by
  have hA : Hid (∀ V, Below w.heap.size w V → EvQ V va A) := fun V hV => ha.over hV
  have hB : Hid (∀ V, Below w.heap.size w V → EvQ V vb L) := fun V hV => hb.over hV
  obtain ⟨oa, ca, rfl, hca, _⟩ := ha
  obtain ⟨ob, cb, rfl, hcb, _⟩ := hb
  have hbl := hide' (Below.refl w.heap.size w)
  by_cases hlen : A.length = L.length
  rotate_left
  · have he : ¬ A = L := fun e => hlen (by rw [e])
    rw [decide_eq_false he]
    have hne : ((A.length : Int) == (L.length : Int)) = false := by rw [beq_eq_false_iff_ne]; omega
    clear hA hB he
    go_enter Tryz.func49, Tryz.ntmps49
    go_wp2
    go_ret
    exact ⟨rfl, hbl.out⟩
  rw [hlen] at hca
  have hlen' := hide' hlen
  obtain ⟨DD, hDD⟩ : ∃ d, d = decide (A = L) := ⟨_, rfl⟩
  rw [← hDD]
  have hDD' := hide' hDD
  rw [hlen]
  clear hDD hlen
  go_enter Tryz.func49, Tryz.ntmps49
  go_wp2
  go_loopw [5, 13] (fun _ k wr => ∃ c : Nat, c ≤ L.length ∧ k = .int .i64 c ∧ Hid (A.take c = L.take c) ∧ Hid (Below w.heap.size w wr)) (fun _ k _ => ((L.length : Int) - intOf k).toNat)
  case atStart => exact ⟨0, Nat.zero_le _, rfl, rfl, hbl⟩
  case round =>
    as_aux_lemma =>
    clear hbl
    obtain ⟨c, hcl, rfl, hq, hBl⟩ := hrel
    by_cases hlt : c < L.length
    · obtain ⟨e, hx⟩ : ∃ x, A[c]? = some x := ⟨_, List.getElem?_eq_getElem (by rw [hlen'.out]; exact hlt)⟩
      obtain ⟨e', hy⟩ : ∃ x, L[c]? = some x := ⟨_, List.getElem?_eq_getElem hlt⟩
      obtain ⟨_, _, e1, _, h1⟩ := hA.out wr hBl.out
      obtain ⟨_, _, e2, _, h2⟩ := hB.out wr hBl.out
      injection e1 with e1 _ e1c
      injection e2 with e2 _ e2c
      subst e1 e1c e2 e2c
      obtain ⟨g1, f1, rfl, a0, a1, a2, a3⟩ := h1 c e hx
      obtain ⟨g2, f2, rfl, b0, b1, b2, b3⟩ := h2 c e' hy
      have hn := hide' (fun h : e = e' => take_eqE hq.out hx hy h)
      have hd : Hid (e ≠ e' → DD = false) := fun h => hDD'.out.trans (decide_eq_false fun e3 => h (by rw [e3, hy] at hx; exact (Option.some.inj hx).symm))
      have hcmp : ∀ W : World, (Op.equalIn 10000 76 (.agg #[.int .i64 e.tick, .int .i64 e.kind, .int .i64 e.step, .int .i64 e.user]) (.agg #[.int .i64 e'.tick, .int .i64 e'.kind, .int .i64 e'.step, .int .i64 e'.user])).run Tryz.prog W = .ok (decide (e = e')) W := fun W => ev_cmp _ _ _ _ _ _ _ _ W
      clear hA hB hx hy h1 h2 hq
      generalize e.tick = t0 at *
      generalize e.kind = t1 at *
      generalize e.step = t2 at *
      generalize e.user = t3 at *
      generalize e'.tick = s0 at *
      generalize e'.kind = s1 at *
      generalize e'.step = s2 at *
      generalize e'.user = s3 at *
      by_cases hee : e = e'
      · have hn' := hide' (hn.out hee)
        rw [decide_eq_true hee] at hcmp
        clear hn hd hee hDD'
        go_wp2
        go_quiet (fail)
        go_wp2
        exact ⟨⟨c + 1, by omega, by go_num, hn', below_drewR hBl.out _⟩, by simp [intOf]; omega⟩
      · have hd' := hide' (hd.out hee)
        rw [decide_eq_false hee] at hcmp
        clear hn hd hee hDD'
        go_wp2
        go_quiet (fail)
        go_wp2
        go_ret
        exact ⟨by rw [hd'.out]; rfl, below_drewR hBl.out _⟩
    · obtain rfl : c = L.length := by omega
      have hq' : Hid (DD = true) := hDD'.out.trans (decide_eq_true (by
        have := hq.out
        rwa [List.take_length, ← hlen'.out, List.take_length] at this))
      clear hA hB hq hDD'
      go_wp2
      go_ret
      exact ⟨by rw [hq'.out]; rfl, hBl.out⟩
end Go.Proofs.YtahfobbiaimoiaaGreatDoor
