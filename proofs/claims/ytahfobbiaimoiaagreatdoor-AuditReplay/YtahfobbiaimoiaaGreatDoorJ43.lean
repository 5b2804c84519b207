/- few: events in new memory. -/
import Derived.Test.YtahfobbiaimoiaaGreatDoorJ29
import Derived.Test.YtahfobbiaimoiaaGreatDoorJ31
import Derived.Test.YtahfobbiaimoiaaGreatDoorJ36
import Derived.Test.YtahfobbiaimoiaaGreatDoorJ41
import Derived.Test.YtahfobbiaimoiaaGreatDoorJ42
import Derived.Deep.CutRange
import Derived.Laws.AppendOwnNone
namespace Go.Proofs.YtahfobbiaimoiaaGreatDoor
open Go.RowKit
theorem SdK.D.wdge {k : SdK} {ev : Value} {R : Rs} {W : World} (h : k.D ev R W) : ∀ b, k.wd ev b → k.lo1 ≤ b := by
  have h1 := h.gl
  have h2 := h.gt
  rintro b (rfl | rfl | e)
  · exact h1.1
  · omega
  · have := h.ge b e; omega
/-- What the document's Replay answers. -/
def RdP (Pf Sf : Nat → Nat) (F : Fw) (L : List Ev) (w : World) (e : Ending) (w' : World) : Prop :=
  ∃ xa z, e = .returned (.tuple #[.pointer xa, .int .i64 z]) ∧ Below w.heap.size w w' ∧
    ((chkF F ≠ 0 ∧ xa = none ∧ z = chkF F) ∨ (chkF F = 0 ∧ xa = none ∧ z = 3 ∧ dcQ Pf F.steps.length L = none) ∨
     (chkF F = 0 ∧ z = 0 ∧ ∃ (k : SdK) (ev : Value) (R : Rs), k.F = F ∧ k.Pf = Pf ∧ k.Sf = Sf ∧ xa = some ⟨k.gd, 0, none⟩ ∧ dcQ Pf F.steps.length L = some R ∧ k.D ev R w'))
theorem dcQ_cons (Pf : Nat → Nat) (n : Nat) (x : Ev) (t : List Ev) (h : (⟨x.tick, 1, -1, -1⟩ : Ev) = x) : dcQ Pf n (x :: t) = (match dcR Pf 1 t (newR n x.tick) with | some R => if R.log.length = (x :: t).length then some R else none | none => none) := by
  show (if (⟨x.tick, 1, -1, -1⟩ : Ev) = x then _ else none) = _
  rw [if_pos h]
  cases dcR Pf 1 t (newR n x.tick) <;> rfl
theorem dcQ_no (Pf : Nat → Nat) (n : Nat) (x : Ev) (t : List Ev) (h : ¬ (⟨x.tick, 1, -1, -1⟩ : Ev) = x) : dcQ Pf n (x :: t) = none := by
  show (if (⟨x.tick, 1, -1, -1⟩ : Ev) = x then _ else none) = _
  rw [if_neg h]
/-- A flow that lies well, in the document's New. -/
theorem newZ_ok {F : Fw} {tick : Int} {w w' : World} {e : Ending} (h0 : chkF F = 0) (h : NewZ F tick w e w') (Pf Sf : Nat → Nat) : ∃ (k : SdK) (ev : Value), k.F = F ∧ k.Pf = Pf ∧ k.Sf = Sf ∧ k.lo1 = w.heap.size ∧ e = .returned (.tuple #[.pointer (some ⟨k.gd, 0, none⟩), .int .i64 0]) ∧ Below w.heap.size w w' ∧ k.D ev (newR F.steps.length tick) w' := by
  rcases h with ⟨h1, _⟩ | ⟨ok, V1, gd, gt, sv, rv, go, ct, Q1, Q2, ev, rfl, hb, hD⟩
  · exact absurd h0 h1
  · exact ⟨⟨F, 0, V1, 0, 0, sv, rv, 0, 0, 0, 0, Pf, Sf, [], [], w.heap.size, V1, gd, gt, sv, rv, go, ct, Q1, Q2⟩, ev, rfl, rfl, rfl, rfl, rfl, hb, hD⟩
set_option maxRecDepth 100000 in
set_option maxHeartbeats 4000000 in
theorem replayD (Pf Sf : Nat → Nat) (F : Fw) (L : List Ev) (v vl : Value) (w : World) (hv : flV w v F) (hB : FlB F) (hl : EvQ w vl L) (hn : L.length ≤ 300) (hO : chkF F = 0 → O.Ord F.steps.length (O.ordL F.steps.length (prs F.steps)) Pf Sf) : Calls Tryz.prog 12 #[v, vl] w (RdP Pf Sf F L w) := by
  have hv0 := hide' hv
  have hl0 : Hid (∀ V, Below w.heap.size w V → EvQ V vl L) := fun V hV => hl.over hV
  obtain ⟨sv0, rv0, rfl, hs, hr⟩ := hv
  obtain ⟨oa, cap, rfl⟩ := hs.shape
  obtain ⟨ob, cb, rfl⟩ := hr.shape
  obtain ⟨ol, cl, rfl, hcl, _⟩ := hl
  have KC : Hid (∀ V, Below w.heap.size w V → Calls Tryz.prog 50 #[.agg #[.string F.name, .slice oa F.steps.length cap, .slice ob F.rules.length cb]] V (flErr V (chkF F))) := fun V hV => checkD F _ V (hv0.out.below hV (Nat.le_refl _)) hB
  have hR1 : Hid (∀ w', chkF F ≠ 0 → Below w.heap.size w w' → RdP Pf Sf F L w (.returned (.tuple #[.pointer none, .int .i64 (chkF F)])) w') := fun w' h1 h2 => ⟨_, _, rfl, h2, .inl ⟨h1, rfl, rfl⟩⟩
  have hR2 : Hid (chkF F = 0 → ∀ w', Below w.heap.size w w' → dcQ Pf F.steps.length L = none → RdP Pf Sf F L w (.returned (.tuple #[.pointer none, .int .i64 3])) w') := fun h0 w' h2 h3 => ⟨_, _, rfl, h2, .inr (.inl ⟨h0, rfl, rfl, h3⟩)⟩
  have hR3 : Hid (chkF F = 0 → ∀ (k : SdK) (ev : Value) (R : Rs) w', k.F = F → k.Pf = Pf → k.Sf = Sf → Below w.heap.size w w' → dcQ Pf F.steps.length L = some R → k.D ev R w' → RdP Pf Sf F L w (.returned (.tuple #[.pointer (some ⟨k.gd, 0, none⟩), .int .i64 0])) w') := fun h0 k ev R w' e1 e2 e3 h2 h3 h4 => ⟨_, _, rfl, h2, .inr (.inr ⟨h0, rfl, k, ev, R, e1, e2, e3, rfl, h3, h4⟩)⟩
  have KN : Hid (chkF F = 0 → ∀ V, Below w.heap.size w V → ∀ t, Calls Tryz.prog 51 #[.agg #[.string F.name, .slice oa F.steps.length cap, .slice ob F.rules.length cb], .int .i64 t] V fun e w' => ∃ (k : SdK) (ev : Value), k.F = F ∧ k.Pf = Pf ∧ k.Sf = Sf ∧ k.lo1 = V.heap.size ∧ e = .returned (.tuple #[.pointer (some ⟨k.gd, 0, none⟩), .int .i64 0]) ∧ Below V.heap.size V w' ∧ k.D ev (newR F.steps.length t) w') := fun h0 V hV t => (newD F _ t V (hv0.out.below hV (Nat.le_refl _)) hB).mono fun _ _ h => newZ_ok h0 h Pf Sf
  have hnz : Hid (chkF F = 0 → F.steps.length ≠ 0) := fun h => (chkF_zero h).ne
  clear hs hr hv0 hB
  generalize RdP Pf Sf F L w = QQ at *
  have D1 := hide' (heap_alloc_new w (.cells #[.string F.name, .slice oa F.steps.length cap, .slice ob F.rules.length cb] 25))
  have B0 : Hid (Below w.heap.size w (w.alloc (.cells #[.string F.name, .slice oa F.steps.length cap, .slice ob F.rules.length cb] 25))) := (Below.refl _ w).alloc (Nat.le_refl _) _
  obtain ⟨x0, x1, x2⟩ := bx3 D1.out
  go_enter Tryz.func12, Tryz.ntmps12
  go_wp2_with fail
  clear x0 x1 x2
  generalize w.alloc (.cells #[.string F.name, .slice oa F.steps.length cap, .slice ob F.rules.length cb] 25) = W1 at *
  have hK : Hid (∀ V, Below W1.heap.size W1 V → Below w.heap.size w V ∧ V.cell? ⟨w.heap.size, 0, none⟩ = some (.string F.name) ∧ V.cell? ⟨w.heap.size, 1, none⟩ = some (.slice oa F.steps.length cap) ∧ V.cell? ⟨w.heap.size, 2, none⟩ = some (.slice ob F.rules.length cb)) := fun V hW => by
    have e1 := (hW.block _ (Array.getElem?_eq_some_iff.1 D1.out).1).trans D1.out
    exact ⟨B0.out.trans (hW.mono B0.out.size), by simp [World.cell?, e1], by simp [World.cell?, e1], by simp [World.cell?, e1]⟩
  clear D1
  refine (KC.out _ B0.out).mono ?_
  rintro e w2 ⟨rfl, hb2⟩
  have B2 := hide' hb2
  have B2w := hide' (hK.out _ hb2).1
  clear KC hb2 B0
  by_cases h0 : chkF F = 0
  rotate_left
  · have hF := hide' (hR1.out _ h0 B2w.out)
    have h0' : (chkF F == 0) = false := by rw [beq_eq_false_iff_ne]; exact h0
    clear hR1 hR2 hR3 KN hK hnz hO hl0
    generalize chkF F = z at *
    go_wp2
    exact hF.out
  rw [h0]
  have hO' := hide' (hO h0)
  have hR2' := hide' (hR2.out h0)
  have hR3' := hide' (hR3.out h0)
  have KN' := hide' (KN.out h0)
  have hnz' := hide' (hnz.out h0)
  clear hR1 hR2 hR3 KN hnz hO h0
  cases L with
  | nil =>
    have hF := hide' (hR2'.out _ B2w.out rfl)
    clear hR2' hR3' KN' hO' hnz' hl0 hK
    rw [show (([] : List Ev).length : Nat) = 0 from rfl]
    go_wp2
    exact hF.out
  | cons x t =>
  have hpos : (((x :: t).length : Int) == 0) = false := by rw [beq_eq_false_iff_ne, List.length_cons]; omega
  have hpos3 : 0 < (x :: t).length := by rw [List.length_cons]; omega
  have hpos2 : (0 : Int) < ((x :: t).length : Int) := by rw [List.length_cons]; omega
  have hel : Hid (∀ V, Below w.heap.size w V → ∀ i e, (x :: t)[i]? = some e → ∃ g f, ol = some ⟨g, f, none⟩ ∧ V.cell? ⟨g, f + i * 4, none⟩ = some (.int .i64 e.tick) ∧ V.cell? ⟨g, f + i * 4 + 1, none⟩ = some (.int .i64 e.kind) ∧ V.cell? ⟨g, f + i * 4 + 2, none⟩ = some (.int .i64 e.step) ∧ V.cell? ⟨g, f + i * 4 + 3, none⟩ = some (.int .i64 e.user)) := fun V hV i e he => by
    obtain ⟨_, _, e1, _, h1⟩ := hl0.out V hV
    injection e1 with e1 _ _
    subst e1
    exact h1 i e he
  clear hl0
  obtain ⟨g0, f0, rfl, -, -, -, -⟩ := hel.out _ (Below.refl _ w) 0 x rfl
  have hd : Hid (Below W1.heap.size W1 w2.drew) := B2.out.drew
  have hh : Hid (∀ V, Below w.heap.size w V → V.cell? ⟨g0, f0, none⟩ = some (.int .i64 x.tick)) := fun V hV => by
    obtain ⟨_, _, e1, h1, _⟩ := hel.out V hV 0 x rfl
    cases e1
    rwa [Nat.zero_mul, Nat.add_zero] at h1
  generalize hNL : (x :: t).length = NL at *
  have KX : Hid (∀ V, Below W1.heap.size W1 V → Calls Tryz.prog 51 #[.agg #[.string F.name, .slice oa F.steps.length cap, .slice ob F.rules.length cb], .int .i64 x.tick] V fun e w' => ∃ (k : SdK) (ev : Value), k.F = F ∧ k.Pf = Pf ∧ k.Sf = Sf ∧ w.heap.size ≤ k.lo1 ∧ e = .returned (.tuple #[.pointer (some ⟨k.gd, 0, none⟩), .int .i64 0]) ∧ Below W1.heap.size W1 w' ∧ Below w.heap.size w w' ∧ k.D ev (newR F.steps.length x.tick) w') := fun V hV => (KN'.out V (hK.out V hV).1 x.tick).mono fun e w' ⟨k, ev, h1, h2, h3, h4, h5, h6, h7⟩ => ⟨k, ev, h1, h2, h3, by rw [h4]; exact (hK.out V hV).1.size, h5, hV.trans (h6.mono hV.size), (hK.out _ (hV.trans (h6.mono hV.size))).1, h7⟩
  clear KN'
  go_upto_region 6 with fail
  go_region_held3 (fun V => V.cell? ⟨w.heap.size, 0, none⟩ = some (.string F.name) ∧ V.cell? ⟨w.heap.size, 1, none⟩ = some (.slice oa F.steps.length cap) ∧ V.cell? ⟨w.heap.size, 2, none⟩ = some (.slice ob F.rules.length cb) ∧ V.cell? ⟨g0, f0, none⟩ = some (.int .i64 x.tick)) (first | (exact ⟨(hK.out _ B3.out).2.1, (hK.out _ B3.out).2.2.1, (hK.out _ B3.out).2.2.2, hh.out _ B3w.out⟩) | (exact ⟨(hK.out _ hd.out).2.1, (hK.out _ hd.out).2.2.1, (hK.out _ hd.out).2.2.2, hh.out _ (hK.out _ hd.out).1⟩)) (first | (go_at_call 51; refine (KX.out _ hd.out).mono ?_; rintro e w3 ⟨k, ev, hkF, hkP, hkS, hk1, rfl, hb3, hb3w, hD⟩; have B3 := hide' hb3; have B3w := hide' hb3w; have hD3 := hide' hD; clear hb3 hb3w hD; (try dsimp only)))
  clear KX B2 B2w B3 hd hK hh
  subst hkF hkP hkS
  obtain ⟨c5, oe, ce, rfl, ⟨hce, _⟩, hee⟩ := hD3.out.evs
  obtain ⟨ge, fe, rfl, a0, a1, a2, a3⟩ := hee 0 ⟨x.tick, 1, -1, -1⟩ rfl
  obtain ⟨_, _, e1, b0, b1, b2, b3⟩ := hel.out w3 B3w.out 0 x rfl
  cases e1
  rw [Nat.zero_mul, Nat.add_zero] at a0 a1 a2 a3 b0 b1 b2 b3
  rw [show (newR k.F.steps.length x.tick).log.length = 1 from rfl] at c5 hce
  have hcmp : ∀ V : World, (Op.equalIn 10000 76 (.agg #[.int .i64 x.tick, .int .i64 1, .int .i64 (-1), .int .i64 (-1)]) (.agg #[.int .i64 x.tick, .int .i64 x.kind, .int .i64 x.step, .int .i64 x.user])).run Tryz.prog V = .ok (decide ((⟨x.tick, 1, -1, -1⟩ : Ev) = x)) V := fun V => ev_cmp _ _ _ _ _ _ _ _ V
  have hok0 := hide' (newR_ok k.F.steps.length hnz'.out x.tick)
  have hQn : Hid (¬ (⟨x.tick, 1, -1, -1⟩ : Ev) = x → ∀ w', Below w.heap.size w w' → QQ (.returned (.tuple #[.pointer none, .int .i64 3])) w') := fun h w' hb => hR2'.out w' hb (dcQ_no _ _ _ _ h)
  have hQc : Hid ((⟨x.tick, 1, -1, -1⟩ : Ev) = x → dcQ k.Pf k.F.steps.length (x :: t) = (match dcR k.Pf 1 t (newR k.F.steps.length x.tick) with | some R => if R.log.length = NL then some R else none | none => none)) := fun h => by
    show dcQ k.Pf k.F.steps.length (x :: t) = _
    rw [dcQ_cons _ _ _ _ h, hNL]
  by_cases hx : (⟨x.tick, 1, -1, -1⟩ : Ev) = x
  rotate_left
  · have hF := hide' (hQn.out hx)
    rw [decide_eq_false hx] at hcmp
    clear hQn hQc hR2' hR3' hD3 hee hel hx hok0 hO' hNL
    generalize x.tick = q0 at *
    generalize x.kind = q1 at *
    generalize x.step = q2 at *
    generalize x.user = q3 at *
    go_wp2
    go_quiet (fail)
    go_wp2
    exact hF.out _ (below_drewR B3w.out _)
  rw [decide_eq_true hx] at hcmp
  have hQc' := hide' (hQc.out hx)
  have hel' : Hid (∀ V, Below w.heap.size w V → ∀ i e, (x :: t)[i]? = some e → V.cell? ⟨g0, f0 + i * 4, none⟩ = some (.int .i64 e.tick) ∧ V.cell? ⟨g0, f0 + i * 4 + 1, none⟩ = some (.int .i64 e.kind) ∧ V.cell? ⟨g0, f0 + i * 4 + 2, none⟩ = some (.int .i64 e.step) ∧ V.cell? ⟨g0, f0 + i * 4 + 3, none⟩ = some (.int .i64 e.user)) := fun V hV i e he => by
    obtain ⟨_, _, e1, h1⟩ := hel.out V hV i e he
    cases e1
    exact h1
  have hL0 : Hid ((x :: t).drop 1 = t) := rfl
  have hnd : Hid (NL ≤ 300) := hn
  clear hQn hQc hee hel hx hnz'
  generalize hR0 : newR k.F.steps.length x.tick = R0 at *
  have hl0 : Hid (R0.log.length ≤ 2 * 1 + 1) := by show _ ≤ _; rw [← hR0, show (newR k.F.steps.length x.tick).log.length = 1 from rfl]; omega
  clear hR0
  generalize x.tick = q0 at *
  generalize x.kind = q1 at *
  generalize x.step = q2 at *
  generalize x.user = q3 at *
  generalize hLL : x :: t = LL at *
  clear hLL
  go_wp2
  go_quiet (fail)
  go_wp2
  go_loopw [9] (fun j wr => ∃ (c : Nat) (ev : Value) (R : Rs), 1 ≤ c ∧ c ≤ NL ∧ j = .int .i64 (c : Int) ∧ Hid (k.D ev R wr) ∧ Hid (Below w.heap.size w wr) ∧ Hid (dcR k.Pf 1 t R0 = dcR k.Pf c (LL.drop c) R) ∧ Hid (RsOk k.F.steps.length R) ∧ Hid (R.log.length ≤ 2 * c + 1)) (fun j _ => ((NL : Int) - intOf j).toNat)
  case atStart =>
    exact ⟨1, _, R0, Nat.le_refl _, by omega, rfl, hD3.out.over (below_drewR (Below.refl _ w3) _), below_drewR B3w.out _, (by show _ = _; rw [hL0.out]), hok0, hl0⟩
  case round =>
    as_aux_lemma =>
    clear hD3 hok0 hl0 c5 a0 a1 a2 a3 b0 b1 b2 b3 hcmp hce hL0
    obtain ⟨c, ev, R, hc1, hcN, rfl, hD, hBl, hdc, hok, hRl⟩ := hrel
    obtain ⟨c5, oe, ce, rfl, ⟨hce, _⟩, hee⟩ := hD.out.evs
    have hRb : R.log.length ≤ 1000 := by have h1 := hRl.out; have h2 := hnd.out; omega
    by_cases hlt : c < NL
    · obtain ⟨y, hy⟩ : ∃ y, LL[c]? = some y := ⟨_, List.getElem?_eq_getElem (by rw [hNL]; exact hlt)⟩
      have hdrop : LL.drop c = y :: LL.drop (c + 1) := by
        obtain ⟨h1, h2⟩ := List.getElem?_eq_some_iff.1 hy
        rw [List.drop_eq_getElem_cons h1, h2]
      rw [hdrop] at hdc
      obtain ⟨b0, b1, b2, b3⟩ := hel'.out wr hBl.out c y hy
      by_cases hlt2 : c < R.log.length
      · obtain ⟨z, hz⟩ : ∃ z, R.log[c]? = some z := ⟨_, List.getElem?_eq_getElem hlt2⟩
        obtain ⟨ge, fe, rfl, a0, a1, a2, a3⟩ := hee c z hz
        have hcmp : ∀ V : World, (Op.equalIn 10000 76 (.agg #[.int .i64 z.tick, .int .i64 z.kind, .int .i64 z.step, .int .i64 z.user]) (.agg #[.int .i64 y.tick, .int .i64 y.kind, .int .i64 y.step, .int .i64 y.user])).run Tryz.prog V = .ok (decide (z = y)) V := fun V => ev_cmp _ _ _ _ _ _ _ _ V
        have hYes : Hid (z = y → dcR k.Pf 1 t R0 = dcR k.Pf (c + 1) (LL.drop (c + 1)) R) := fun e => hdc.out.trans (by rw [dcR, if_pos hlt2, if_pos (by rw [hz, e])])
        have hNo : Hid (z ≠ y → ∀ w', Below w.heap.size w w' → QQ (.returned (.tuple #[.pointer none, .int .i64 3])) w') := fun e w' hb => hR2'.out w' hb (by
          rw [hQc'.out, hdc.out, dcR, if_pos hlt2, if_neg (by rw [hz]; exact fun h => e (Option.some.inj h))])
        have hlt2' : (c : Int) < (R.log.length : Int) := by omega
        clear hee hdc hR2' hR3' hQc' hel' hy hz hdrop hO'
        generalize y.tick = p0 at *
        generalize y.kind = p1 at *
        generalize y.step = p2 at *
        generalize y.user = p3 at *
        generalize z.tick = s0 at *
        generalize z.kind = s1 at *
        generalize z.step = s2 at *
        generalize z.user = s3 at *
        by_cases hzy : z = y
        · rw [decide_eq_true hzy] at hcmp
          have hY := hide' (hYes.out hzy)
          have hRl' : Hid (R.log.length ≤ 2 * (c + 1) + 1) := by show _ ≤ _; have := hRl.out; omega
          clear hYes hNo hzy
          go_wp2
          go_quiet (fail)
          go_wp2
          exact ⟨⟨c + 1, _, R, by omega, by omega, by go_num, hD.out.over (below_drewR (Below.refl _ _) _), below_drewR hBl.out _, hY, hok, hRl'⟩, by simp [intOf]; omega⟩
        · rw [decide_eq_false hzy] at hcmp
          have hF := hide' (hNo.out hzy)
          clear hYes hNo hzy
          go_wp2
          go_quiet (fail)
          go_wp2
          exact hF.out _ (below_drewR hBl.out _)
      · have KA := hide' (againD hD.out hok.out hO'.out (by omega) y)
        have hYes : Hid ((agR k.Pf R y).log[R.log.length]? = some y → dcR k.Pf 1 t R0 = dcR k.Pf (c + 1) (LL.drop (c + 1)) (agR k.Pf R y)) := fun e => hdc.out.trans (by rw [dcR, if_neg hlt2, if_pos e])
        have hNo : Hid (¬ (agR k.Pf R y).log[R.log.length]? = some y → ∀ w', Below w.heap.size w w' → QQ (.returned (.tuple #[.pointer none, .int .i64 3])) w') := fun e w' hb => hR2'.out w' hb (by
          rw [hQc'.out, hdc.out, dcR, if_neg hlt2, if_neg e])
        have hlt2' : ¬ (c : Int) < (R.log.length : Int) := by omega
        have hok2 := hide' (agR_ok k.Pf hok.out y)
        have hRl2 : Hid ((agR k.Pf R y).log.length ≤ 2 * (c + 1) + 1) := by show _ ≤ _; have h1 := agR_len k.Pf R y; have := hRl.out; omega
        have hbw : Hid (∀ w', Zf (k.wd (.slice oe R.log.length ce)) wr w' → Below w.heap.size w w') := fun w' hz => hBl.out.trans (hz.toBelow hBl.out.size fun b hb => Nat.le_trans hk1 (hD.out.wdge b hb))
        clear hee hdc hR2' hR3' hQc' hel' hy hdrop hO' hok hRl hBl
        generalize agR k.Pf R y = R2 at *
        generalize hDD : decide (R2.log[R.log.length]? = some y) = DD at *
        have hDD' := hide' hDD
        clear hDD hD
        generalize R.log.length = nl at *
        generalize y.tick = p0 at *
        generalize y.kind = p1 at *
        generalize y.step = p2 at *
        generalize y.user = p3 at *
        go_wp2_with fail
        refine KA.out.mono ?_
        rintro e w5 ⟨rfl, ev2, hD5, hz5, _⟩
        have hB5 := hide' (hbw.out _ hz5)
        have hD5' := hide' hD5
        clear KA hD5 hz5 hbw c5 b0 b1 b2 b3
        by_cases hq : R2.log[nl]? = some y
        · have hY := hide' (hYes.out hq)
          obtain rfl : DD = true := by rw [← hDD'.out]; exact decide_eq_true hq
          clear hYes hNo hq hDD'
          go_wp2
          exact ⟨⟨c + 1, _, R2, by omega, by omega, by go_num, hD5', hB5, hY, hok2, hRl2⟩, by simp [intOf]; omega⟩
        · have hF := hide' (hNo.out hq _ hB5.out)
          obtain rfl : DD = false := by rw [← hDD'.out]; exact decide_eq_false hq
          clear hYes hNo hq hDD'
          go_wp2
          exact hF.out
    · obtain rfl : c = NL := by omega
      have hdn : dcR k.Pf 1 t R0 = some R := hdc.out.trans (by rw [List.drop_of_length_le (by omega)]; rfl)
      have hYes : Hid (R.log.length = c → ∀ w', Below wr.heap.size wr w' → QQ (.returned (.tuple #[.pointer (some ⟨k.gd, 0, none⟩), .int .i64 0])) w') := fun e w' hb => hR3'.out k _ R w' rfl rfl rfl (hBl.out.trans (hb.mono hBl.out.size)) (by rw [hQc'.out, hdn]; exact if_pos e) (hD.out.over hb)
      have hNo : Hid (¬ R.log.length = c → ∀ w', Below wr.heap.size wr w' → QQ (.returned (.tuple #[.pointer none, .int .i64 3])) w') := fun e w' hb => hR2'.out w' (hBl.out.trans (hb.mono hBl.out.size)) (by rw [hQc'.out, hdn]; exact if_neg e)
      clear hdn hee hdc hR2' hR3' hQc' hel' hO' hok hRl hBl hD hNL
      generalize R.log.length = nl at *
      by_cases hq : nl = c
      · subst hq
        have hF := hide' (hYes.out rfl)
        clear hYes hNo
        go_wp2
        exact hF.out _ (Below.refl _ _)
      · have hF := hide' (hNo.out hq)
        have hq' : ((nl : Int) == (c : Int)) = false := by rw [beq_eq_false_iff_ne]; omega
        clear hYes hNo
        go_wp2
        exact hF.out _ (Below.refl _ _)
end Go.Proofs.YtahfobbiaimoiaaGreatDoor
namespace Go.Proofs.YtahfobbiaimoiaaGreatDoor
open Go.RowKit
theorem RnX.fl {V0 : World} {F : Fw} {gr gt : Nat} {sv rv : Value} {go gp gs ct : Nat} {Pf Sf : Nat → Nat} {P1 : List (Sp × Value)} {P2 : List (Rl × Value)} {lv : Value} {R : Rs} {W : World} (h : RnX V0 F gr gt sv rv go gp gs ct Pf Sf P1 P2 lv R W) : flV W (.agg #[.string F.name, sv, rv]) F := by
  have r1 := (h.t1.over h.bl).rowS
  have r2 := (h.t2.over h.bl).rowR
  rw [h.m1] at r1
  rw [h.m2] at r2
  exact ⟨_, _, rfl, r1, r2⟩
/-- The program's run and the document's, of one log. -/
structure Bo (F : Fw) (L : List Ev) (gr : Nat) (k : SdK) (ev lv : Value) (R : Rs) (gt : Nat) (sv rv : Value) (go ct gp gs : Nat) (V0 : World) (P1 : List (Sp × Value)) (P2 : List (Rl × Value)) (W : World) : Prop where
  x : RnX V0 F gr gt sv rv go gp gs ct k.Pf k.Sf P1 P2 lv R W
  d : k.D ev R W
  f : k.F = F
  ok : FlOk F
  lg : R.log = L
  rs : RsOk F.steps.length R
  eq : R = rpR k.Pf (newR F.steps.length (ftk L)) L
/-- What both leave. -/
def BoP (F : Fw) (L : List Ev) (pa xa : Option Addr) (W : World) : Prop :=
  (pa = none ∧ xa = none) ∨ ∃ gr k ev lv R gt sv rv go ct gp gs V0 P1 P2, pa = some ⟨gr, 0, none⟩ ∧ xa = some ⟨SdK.gd k, 0, none⟩ ∧ Bo F L gr k ev lv R gt sv rv go ct gp gs V0 P1 P2 W
theorem replayB {F : Fw} {L : List Ev} {w w6 : World} {e : Ending} (h : RpP F L w e w6) : ∃ pa z, e = .returned (.tuple #[.pointer pa, .int .i64 z]) ∧ Below w.heap.size w w6 ∧ ∀ (v vl : Value) (W : World), Below w6.heap.size w6 W → flV W v F → FlB F → EvQ W vl L → L.length ≤ 300 → Calls Tryz.prog 12 #[v, vl] W fun e w' => ∃ xa, e = .returned (.tuple #[.pointer xa, .int .i64 z]) ∧ Below W.heap.size W w' ∧ BoP F L pa xa w' := by
  obtain ⟨pa, z, rfl, hb, h⟩ := h
  refine ⟨pa, z, rfl, hb, fun v vl W hW hv hB hl hn => ?_⟩
  rcases h with ⟨h0, rfl, rfl⟩ | ⟨ok, V0, gr, gt, sv, rv, go, gp, gs, ct, Pf, Sf, P1, P2, lv, hX, h⟩
  · refine (replayD (fun _ => 0) (fun _ => 0) F L v vl W hv hB hl hn (fun e => absurd e h0)).mono ?_
    rintro e w' ⟨xa, z, rfl, hb', h⟩
    rcases h with ⟨_, rfl, rfl⟩ | ⟨h1, _⟩ | ⟨h1, _⟩
    · exact ⟨_, rfl, hb', .inl ⟨rfl, rfl⟩⟩
    · exact absurd h1 h0
    · exact absurd h1 h0
  · refine (replayD Pf Sf F L v vl W hv hB hl hn (fun _ => hX.wrd)).mono ?_
    rintro e w' ⟨xa, z', rfl, hb', h'⟩
    have h0 := chkF_ok ok
    have hq := dcQ_eq Pf F.steps.length L
    rcases h' with ⟨h1, _⟩ | ⟨_, rfl, rfl, h2⟩ | ⟨_, rfl, k, ev, R, rfl, rfl, rfl, rfl, h2, h3⟩
    · exact absurd h0 h1
    · rw [h2] at hq
      rcases h with ⟨h4, _⟩ | ⟨_, rfl, rfl⟩
      · rw [if_pos h4] at hq; cases hq
      · exact ⟨_, rfl, hb', .inl ⟨rfl, rfl⟩⟩
    · rw [h2] at hq
      rcases h with ⟨h4, rfl, rfl⟩ | ⟨h4, _⟩
      · rw [if_pos h4] at hq
        injection hq with hq
        subst hq
        exact ⟨_, rfl, hb', .inr ⟨gr, k, ev, lv, _, gt, sv, rv, go, ct, gp, gs, V0, P1, P2, rfl, rfl, ⟨(hX.over (hW)).over hb', h3, rfl, ok, h4, rpR_ok k.Pf L (newR_ok _ ok.ne _), rfl⟩⟩⟩
      · rw [if_neg h4] at hq; cases hq
theorem st_eqA (a b c d : Int) (w : World) : (Op.equalIn 10000 42 (.agg #[.int .i64 a, .int .i64 b, .int .i64 c, .int .i64 d]) (.agg #[.int .i64 a, .int .i64 b, .int .i64 c, .int .i64 d])).run Tryz.prog w = .ok true w := by
  have u3 := Tryz.underlying3
  have a3 := Tryz.isAgg3
  have z3 := Tryz.sizeOf3
  rw [show (10000 : Nat) = 9999 + 1 from rfl, run_equalIn_struct w 9999 _ _ _ (by simp [Program.fieldsOf, Tryz.underlying42]) (by kernel_rfl)]
  simp only [Program.fieldsOf, Tryz.underlying42]
  go_simp
section
variable {F : Fw} {L : List Ev} {gr : Nat} {k : SdK} {ev lv : Value} {R : Rs} {gt : Nat} {sv rv : Value} {go ct gp gs : Nat} {V0 : World} {P1 : List (Sp × Value)} {P2 : List (Rl × Value)} {W W' : World}
theorem Bo.over (h : Bo F L gr k ev lv R gt sv rv go ct gp gs V0 P1 P2 W) (hb : Below W.heap.size W W') : Bo F L gr k ev lv R gt sv rv go ct gp gs V0 P1 P2 W' := ⟨h.x.over hb, h.d.over hb, h.f, h.ok, h.lg, h.rs, h.eq⟩
theorem Bo.ord (h : Bo F L gr k ev lv R gt sv rv go ct gp gs V0 P1 P2 W) : O.Ord k.F.steps.length (O.ordL k.F.steps.length (prs k.F.steps)) k.Pf k.Sf := by rw [h.f]; exact h.x.wrd
theorem Bo.ne (h : Bo F L gr k ev lv R gt sv rv go ct gp gs V0 P1 P2 W) : R.log ≠ [] := by rw [h.eq]; exact rpR_ne _ _ _ _
theorem Bo.statusD (h : Bo F L gr k ev lv R gt sv rv go ct gp gs V0 P1 P2 W) : Calls Tryz.prog 16 #[.pointer (some ⟨k.gd, 0, none⟩)] W fun e w' => e = .returned (.int .i64 R.stat) ∧ w' = W := by
  obtain ⟨sk, en, h1, h2⟩ := h.d.at'
  exact Go.Proofs.YtahfobbiaimoiaaGreatDoor.statusD h1 h2
theorem Bo.readyD (h : Bo F L gr k ev lv R gt sv rv go ct gp gs V0 P1 P2 W) : Calls Tryz.prog 18 #[.pointer (some ⟨k.gd, 0, none⟩)] W fun e w' => e = .returned (.int .u64 (rdyR R.S.length k.Pf R : Nat)) ∧ w' = W := by
  obtain ⟨sk, en, h1, h2⟩ := h.d.at'
  have hw := h.ord
  rw [← h.d.len] at hw
  exact Go.Proofs.YtahfobbiaimoiaaGreatDoor.readyD h1 h2 hw (h.d.prdN h.ord)
theorem Bo.sts (h : Bo F L gr k ev lv R gt sv rv go ct gp gs V0 P1 P2 W) : W.cell? ⟨k.gd, 4, none⟩ = some (.slice (some ⟨k.hd, 0, none⟩) R.S.length k.ct1) ∧ R.S.length ≤ k.ct1 ∧ ∀ i s, R.S[i]? = some s → W.cell? ⟨k.hd, i * 4, none⟩ = some (.int .i64 s.st) ∧ W.cell? ⟨k.hd, i * 4 + 1, none⟩ = some (.int .i64 s.us) ∧ W.cell? ⟨k.hd, i * 4 + 2, none⟩ = some (.int .i64 s.ca) ∧ W.cell? ⟨k.hd, i * 4 + 3, none⟩ = some (.int .i64 s.da) := by
  obtain ⟨sk, en, h1, h2⟩ := h.d.at'
  exact ⟨h1.cs.2.1, h1.cap, fun i s hs => h1.at hs⟩
end
end Go.Proofs.YtahfobbiaimoiaaGreatDoor
namespace Go.Proofs.YtahfobbiaimoiaaGreatDoor
open Go.RowKit
theorem evs_news {w : World} {ad : Addr} {L : List Ev} (hc : ∀ i e, L[i]? = some e → ∃ g f, some ad = some ⟨g, f, none⟩ ∧ w.cell? ⟨g, f + i * 4, none⟩ = some (.int .i64 e.tick) ∧ w.cell? ⟨g, f + i * 4 + 1, none⟩ = some (.int .i64 e.kind) ∧ w.cell? ⟨g, f + i * 4 + 2, none⟩ = some (.int .i64 e.step) ∧ w.cell? ⟨g, f + i * 4 + 3, none⟩ = some (.int .i64 e.user)) : ∀ j u, (cellsEv L)[j]? = some u → w.cell? (ad.add j) = some u := by
  intro j u hu
  have hj : j = j / 4 * 4 + j % 4 := by omega
  have h4 : j % 4 < 4 := Nat.mod_lt _ (by omega)
  unfold cellsEv at hu
  rw [hj, four_at evcells evcells_len L _ _ h4] at hu
  cases he : L[j / 4]? with
  | none => rw [he] at hu; cases hu
  | some e =>
    rw [he] at hu
    obtain ⟨g, f, e1, a0, a1, a2, a3⟩ := hc _ e he
    cases e1
    rw [hj, Addr.add_lit]
    have hr : j % 4 = 0 ∨ j % 4 = 1 ∨ j % 4 = 2 ∨ j % 4 = 3 := by omega
    rcases hr with h | h | h | h <;> rw [h] at hu ⊢ <;> cases hu
    · exact a0
    · exact a1
    · exact a2
    · exact a3
theorem owns_zeroE (w : World) : (w.alloc (.cells #[] 76)).ownsRow w.heap.size 76 4 (.slice (some ⟨w.heap.size, 0, none⟩) 0 0) 0 (cellsEv []) := ⟨rfl, .inr ⟨_, 0, #[], rfl, Nat.le_refl _, heap_new w _, Nat.le_refl _, by unfold maxLen; omega, rfl, rfl⟩⟩
set_option maxRecDepth 100000 in
set_option maxHeartbeats 1000000 in
theorem fewE (L : List Ev) (v : Value) (w : World) (hr : EvQ w v L) :
    Calls Tryz.prog 10 #[v] w fun e w' => ∃ v', e = .returned v' ∧ w'.ownsRow w.heap.size 76 4 v' (L.take 300).length (cellsEv (L.take 300)) ∧ Below w.heap.size w w' := by
  obtain ⟨oa, cap, rfl, hcap, hc⟩ := hr
  obtain ⟨i0, z0, hi, hz0, hz1, hz2, hz3⟩ := elE.inf
  have hc' := hide' hc
  clear hc
  go_enter Tryz.func10, Tryz.ntmps10
  by_cases hlong : 300 < L.length
  · obtain ⟨ad, rfl⟩ : ∃ ad, oa = some ad := by
      cases oa with
      | none => have := hcap.2 rfl; omega
      | some ad => exact ⟨ad, rfl⟩
    obtain ⟨g, o, e, _⟩ := hc'.out 0 L[0] (List.getElem?_eq_getElem (by omega))
    cases e
    have hcap1 := hcap.1
    have hlen : (cellsEv (L.take 300)).length = 300 * 4 := by rw [cellsEv_len, List.length_take]; omega
    have hnews : ∀ j u, (cellsEv (L.take 300))[j]? = some u → (w.alloc (.cells #[] 76)).cell? (Addr.add ⟨g, o, none⟩ j) = some u := fun j u hu => by
      have h := evs_news (L := L.take 300) (fun i e he => hc'.out i e (by
        obtain ⟨hj, _⟩ := List.getElem?_eq_some_iff.1 he
        rw [List.length_take] at hj
        rwa [List.getElem?_take_of_lt (by omega)] at he)) j u hu
      exact (((Below.refl w.heap.size w).alloc (Nat.le_refl _) _).cell (World.block_lt_of_cell? w _ h)).trans h
    have hone := evcells_one (L.take 300)
    clear hcap
    go_wp2_with (at_builtin; refine wpList_append_own _ rfl _ _ 26 rfl w.heap.size 76 i0 z0 4 32 Tryz.underlying26 hi hz0 hz1 hz2 hz3 (by decide) _ 0 (cellsEv []) rfl (owns_zeroE w) ⟨g, o, none⟩ 300 cap (cellsEv (L.take 300)) rfl hlen hnews hone (by unfold maxLen; omega) (by omega) (by simp) ?_; intro v1 w1 hown1 hgrow1 hnil)
    go_ret
    have hown : w1.ownsRow w.heap.size 76 4 v1 (0 + 300) (cellsEv (L.take 300)) := hown1
    rw [show 0 + 300 = (L.take 300).length by rw [List.length_take]; omega] at hown
    exact ⟨_, rfl, hown, ((Below.refl _ w).alloc (Nat.le_refl _) _).grown hgrow1 (by simp) (fun j ej => by cases ej; exact Nat.le_refl _)⟩
  · have hle : L.length ≤ 300 := by omega
    rw [List.take_of_length_le hle]
    cases oa with
    | none =>
      obtain ⟨h1, h2⟩ := hcap
      have := h2 rfl
      subst this
      have : L = [] := List.eq_nil_of_length_eq_zero (by omega)
      subst this
      go_wp2_with (at_builtin; refine wpList_append_own_none rfl _ _ 26 rfl w.heap.size 76 i0 4 Tryz.underlying26 hi _ 0 (cellsEv []) rfl (owns_zeroE w) rfl ?_)
      go_ret
      exact ⟨_, rfl, owns_zeroE w, (Below.refl _ w).alloc (Nat.le_refl _) _⟩
    | some ad =>
      have hnews : ∀ j u, (cellsEv L)[j]? = some u → (w.alloc (.cells #[] 76)).cell? (ad.add j) = some u := fun j u hu => by
        have h := evs_news hc'.out j u hu
        exact (((Below.refl w.heap.size w).alloc (Nat.le_refl _) _).cell (World.block_lt_of_cell? w _ h)).trans h
      have hlen := cellsEv_len L
      have hone := evcells_one L
      have hlong' : ¬ (300 : Int) < (L.length : Int) := by omega
      clear hcap
      go_wp2_with (at_builtin; refine wpList_append_own _ rfl _ _ 26 rfl w.heap.size 76 i0 z0 4 32 Tryz.underlying26 hi hz0 hz1 hz2 hz3 (by decide) _ 0 (cellsEv []) rfl (owns_zeroE w) ad L.length cap (cellsEv L) rfl hlen hnews hone (by unfold maxLen; omega) (by omega) (by simp) ?_; intro v1 w1 hown1 hgrow1 hnil)
      go_ret
      have hown : w1.ownsRow w.heap.size 76 4 v1 (0 + L.length) (cellsEv L) := hown1
      rw [Nat.zero_add] at hown
      exact ⟨_, rfl, hown, ((Below.refl _ w).alloc (Nat.le_refl _) _).grown hgrow1 (by simp) (fun j ej => by cases ej; exact Nat.le_refl _)⟩
end Go.Proofs.YtahfobbiaimoiaaGreatDoor
