/- The document's again. -/
import Derived.Test.YtahfobbiaimoiaaGreatDoorJ36
import Derived.Test.YtahfobbiaimoiaaGreatDoorJ41
import Derived.Deep.RegionHeld3
namespace Go.Proofs.YtahfobbiaimoiaaGreatDoor
open Go.RowKit
section
variable {k : SdK} {ev : Value} {R : Rs} {W W' : World} {n : Nat}
/-- What a call of the document's run leaves. -/
def StE (k : SdK) (ev : Value) (W : World) (v : Value) (R' : Rs) (e : Ending) (w' : World) : Prop := e = .returned v ∧ ∃ ev', k.D ev' R' w' ∧ Zf (k.wd ev) W w' ∧ Nf W.heap.size (k.wd ev) (k.wd ev')
theorem SdK.D.prdN (h : k.D ev R W) (hO : O.Ord k.F.steps.length (O.ordL k.F.steps.length (prs k.F.steps)) k.Pf k.Sf) : ∀ a : Nat, a < R.S.length → Calls Tryz.prog 98 #[.pointer (some ⟨k.go1, 0, none⟩), .int .i64 (a : Int)] W fun e w' => e = .returned (.int .u64 (k.Pf a : Int)) ∧ w' = W := fun a ha => by
  have := h.prd W h.win (a : Int)
  rwa [(hO.preN (by rw [← h.len]; exact ha)).1] at this
theorem SdK.D.n64 (h : k.D ev R W) (hO : O.Ord k.F.steps.length (O.ordL k.F.steps.length (prs k.F.steps)) k.Pf k.Sf) : R.S.length ≤ 64 := by rw [h.len]; exact hO.n64
theorem claimE (h : k.D ev R W) (hO : O.Ord k.F.steps.length (O.ordL k.F.steps.length (prs k.F.steps)) k.Pf k.Sf) (hl : R.log.length ≤ 90000) (step user tick : Int) : Calls Tryz.prog 86 #[.pointer (some ⟨k.gd, 0, none⟩), .int .i64 step, .int .i64 user, .int .i64 tick] W (StE k ev W (.int .i64 (canC k.Pf R step)) (clmR k.Pf R step user tick)) := by
  obtain ⟨sk, en, h1, h2⟩ := h.at'
  exact (claimD h1 h2 (h.n64 hO) (h.prdN hO) (fun a ha => hO.pre_lt (by rw [← h.len]; exact ha)) (by omega) (Nat.zero_le _) step user tick).mono fun _ _ ho => h.op ho (clmR_len _ _ _ _ _)
theorem doneE (h : k.D ev R W) (hO : O.Ord k.F.steps.length (O.ordL k.F.steps.length (prs k.F.steps)) k.Pf k.Sf) (ok : RsOk n R) (hl : R.log.length ≤ 90000) (step user tick : Int) : Calls Tryz.prog 87 #[.pointer (some ⟨k.gd, 0, none⟩), .int .i64 step, .int .i64 user, .int .i64 tick] W (StE k ev W (.int .i64 (canD R step user)) (donR R step user tick)) := by
  obtain ⟨sk, en, h1, h2⟩ := h.at'
  exact (doneD h1 h2 (h.n64 hO) ok.st hl (Nat.zero_le _) step user tick).mono fun _ _ ho => h.op ho (donR_len _ _ _ _)
theorem abortE (h : k.D ev R W) (hl : R.log.length ≤ 90000) (tick : Int) : Calls Tryz.prog 88 #[.pointer (some ⟨k.gd, 0, none⟩), .int .i64 tick] W (StE k ev W (.int .i64 (if endd R = true then 30 else 0)) (aboR R tick)) := by
  obtain ⟨sk, en, h1, h2⟩ := h.at'
  exact (abortD h1 h2 hl (Nat.zero_le _) tick).mono fun _ _ ho => h.op ho (aboR_len _ _)
theorem markE (h : k.D ev R W) (hl : R.log.length ≤ 90000) (b : Bool) (tick : Int) : Calls Tryz.prog 89 #[.pointer (some ⟨k.gd, 0, none⟩), .bool b, .int .i64 tick] W (StE k ev W (.bool (mrkB R b)) (mrkR R b tick)) := by
  obtain ⟨sk, en, h1, h2⟩ := h.at'
  exact (markD h1 h2 hl (Nat.zero_le _) b tick).mono fun _ _ ho => h.op ho (mrkR_len _ _ _)
/-- The row of events of the document's run. -/
theorem SdK.D.evs (h : k.D ev R W) : W.cell? ⟨k.gd, 5, none⟩ = some ev ∧ EvQ W ev R.log := by
  obtain ⟨sk, en, h1, h2⟩ := h.at'
  exact ⟨h1.cs.2.2.1, .of_owns h1.lg⟩
theorem SdK.D.over (h : k.D ev R W) (hb : Below W.heap.size W W') : k.D ev R W' := h.kept hb.size fun b hb' _ => hb.block b hb'
set_option maxRecDepth 100000 in
set_option maxHeartbeats 4000000 in
theorem againD (h : k.D ev R W) (ok : RsOk n R) (hO : O.Ord k.F.steps.length (O.ordL k.F.steps.length (prs k.F.steps)) k.Pf k.Sf) (hl : R.log.length ≤ 80000) (e : Ev) :
    Calls Tryz.prog 52 #[.pointer (some ⟨k.gd, 0, none⟩), .agg #[.int .i64 e.tick, .int .i64 e.kind, .int .i64 e.step, .int .i64 e.user]] W (StE k ev W (.bool (decide ((agR k.Pf R e).log[R.log.length]? = some e))) (agR k.Pf R e)) := by
  obtain ⟨t, kd, s, u⟩ := e
  show Calls Tryz.prog 52 #[.pointer (some ⟨k.gd, 0, none⟩), .agg #[.int .i64 t, .int .i64 kd, .int .i64 s, .int .i64 u]] W _
  have hB1 := hide' ((Below.refl _ W).alloc (Nat.le_refl _) (.cells #[.int .i64 t, .int .i64 kd, .int .i64 s, .int .i64 u] 76))
  have h1 := h.over hB1.out
  obtain ⟨c5, hE⟩ := h1.evs
  obtain ⟨oe, ce, hev, _, _⟩ := hE
  have hl2 := agR_len k.Pf R ⟨t, kd, s, u⟩
  have hXb := hide' (heap_alloc_new W (.cells #[.int .i64 t, .int .i64 kd, .int .i64 s, .int .i64 u] 76))
  have hwd : Hid (∀ b, k.wd ev b → b < W.heap.size) := fun b hb => h.lt b (.inl hb)
  -- what stands behind the call
  have HT : Hid (∀ ev' w', k.D ev' (agR k.Pf R ⟨t, kd, s, u⟩) w' → Zf (k.wd ev) (W.alloc (.cells #[.int .i64 t, .int .i64 kd, .int .i64 s, .int .i64 u] 76)) w' → Nf (W.alloc (.cells #[.int .i64 t, .int .i64 kd, .int .i64 s, .int .i64 u] 76)).heap.size (k.wd ev) (k.wd ev') → (w'.cell? ⟨k.gd, 5, none⟩ = some ev' ∧ EvQ w' ev' (agR k.Pf R ⟨t, kd, s, u⟩).log ∧ w'.cell? ⟨W.heap.size, 0, none⟩ = some (.int .i64 t) ∧ w'.cell? ⟨W.heap.size, 1, none⟩ = some (.int .i64 kd) ∧ w'.cell? ⟨W.heap.size, 2, none⟩ = some (.int .i64 s) ∧ w'.cell? ⟨W.heap.size, 3, none⟩ = some (.int .i64 u)) ∧ ∀ w2, Below w'.heap.size w' w2 → ∀ b : Bool, b = decide ((agR k.Pf R ⟨t, kd, s, u⟩).log[R.log.length]? = some ⟨t, kd, s, u⟩) → StE k ev W (.bool (decide ((agR k.Pf R ⟨t, kd, s, u⟩).log[R.log.length]? = some ⟨t, kd, s, u⟩))) (agR k.Pf R ⟨t, kd, s, u⟩) (.returned (.bool b)) w2) := fun ev' w' hD hz hn => by
    have hX : w'.heap[W.heap.size]? = some (.cells #[.int .i64 t, .int .i64 kd, .int .i64 s, .int .i64 u] 76 (0, 0)) := (hz.blk _ (Array.getElem?_eq_some_iff.1 hXb.out).1 fun e => by have := hwd.out _ e; omega).trans hXb.out
    obtain ⟨x0, x1, x2, x3⟩ := bx4 hX
    have hs : W.heap.size ≤ (W.alloc (.cells #[.int .i64 t, .int .i64 kd, .int .i64 s, .int .i64 u] 76)).heap.size := by simp
    have hnf : Nf W.heap.size (k.wd ev) (k.wd ev') := fun b hb => by
      rcases hn b hb with e | e
      · exact .inl e
      · exact .inr (by omega)
    exact ⟨⟨hD.evs.1, hD.evs.2, x0, x1, x2, x3⟩, fun w2 h2 b hb => ⟨by rw [hb], ev', hD.over h2, ((Zf.of_below hB1.out).trans hz (Nf.refl _ _)).trans (Zf.of_below h2) (Nf.refl _ _), hnf⟩⟩
  have H0 := hide' h1
  have hlt := hide' hl
  have hlE : Hid (R.log.length ≤ 90000) := by show _ ≤ _; omega
  generalize StE k ev W (.bool (decide ((agR k.Pf R ⟨t, kd, s, u⟩).log[R.log.length]? = some ⟨t, kd, s, u⟩))) (agR k.Pf R ⟨t, kd, s, u⟩) = QQ at *
  have hl2' := hide' hl2
  clear hl2
  by_cases k2 : kd = 2
  · as_aux_lemma =>
    subst k2
    have K0 : Calls Tryz.prog 86 #[.pointer (some ⟨k.gd, 0, none⟩), .int .i64 s, .int .i64 u, .int .i64 t] (W.alloc (.cells #[.int .i64 t, .int .i64 2, .int .i64 s, .int .i64 u] 76)) (StE k ev (W.alloc (.cells #[.int .i64 t, .int .i64 2, .int .i64 s, .int .i64 u] 76)) (.int .i64 (canC k.Pf R s)) (agR k.Pf R ⟨t, 2, s, u⟩)) := claimE H0.out hO hlE.out s u t
    have K := hide' K0
    clear K0 H0 hO ok h h1 hl hlE hlt hl2'
    generalize agR k.Pf R ⟨t, 2, s, u⟩ = R2 at *
    generalize R.log.length = nl at *
    generalize k.gd = gd at *
    subst hev
    obtain ⟨x0, x1, x2, x3⟩ := bx4 hXb.out
    clear hXb hwd hB1
    skip
    go_enter Tryz.func52, Tryz.ntmps52
    go_wp2_with fail
    refine K.out.mono ?_
    rintro e w1 ⟨rfl, ev', hD2, hz2, hn2⟩
    clear K x0 x1 x2 x3 c5
    obtain ⟨⟨d5, hE2, y0, y1, y2, y3⟩, hQ⟩ := HT.out _ _ hD2 hz2 hn2
    obtain ⟨o2, c2, rfl, ⟨hc2, _⟩, hel⟩ := hE2
    have hQ' := hide' hQ
    clear HT hD2 hz2 hn2 hQ
    by_cases hgt : nl < R2.log.length
    · obtain ⟨x, hx⟩ : ∃ x, R2.log[nl]? = some x := ⟨_, List.getElem?_eq_getElem hgt⟩
      obtain ⟨g2, f2, rfl, a0, a1, a2, a3⟩ := hel _ x hx
      have hcmp : ∀ V : World, (Op.equalIn 10000 76 (.agg #[.int .i64 x.tick, .int .i64 x.kind, .int .i64 x.step, .int .i64 x.user]) (.agg #[.int .i64 t, .int .i64 2, .int .i64 s, .int .i64 u])).run Tryz.prog V = .ok (decide (x = ⟨t, 2, s, u⟩)) V := fun V => ev_cmp _ _ _ _ _ _ _ _ V
      have hb : Hid (decide (x = ⟨t, 2, s, u⟩) = decide (R2.log[nl]? = some ⟨t, 2, s, u⟩)) := by show _ = _; rw [hx]; simp
      have hgt' : (nl : Int) < (R2.log.length : Int) := by omega
      clear hel hx
      generalize decide (x = ⟨t, 2, s, u⟩) = bb at *
      generalize x.tick = q0 at *
      generalize x.kind = q1 at *
      generalize x.step = q2 at *
      generalize x.user = q3 at *
      generalize R2.log.length = n2 at *
      go_wp2
      go_quiet (fail)
      go_wp2
      exact hQ'.out _ (below_drewR (Below.refl _ _) _) _ hb.out
    · have hb : Hid (false = decide (R2.log[nl]? = some ⟨t, 2, s, u⟩)) := by show _ = _; rw [List.getElem?_eq_none (by omega)]; rfl
      have hgt' : ¬ (nl : Int) < (R2.log.length : Int) := by omega
      clear hel
      generalize R2.log.length = n2 at *
      go_wp2
      go_quiet (fail)
      go_wp2
      exact hQ'.out _ (below_drewR (Below.refl _ _) _) _ hb.out
  have n2 : (kd == 2) = false := by rw [beq_eq_false_iff_ne]; exact k2
  by_cases k3 : kd = 3
  · as_aux_lemma =>
    subst k3
    have K0 : Calls Tryz.prog 87 #[.pointer (some ⟨k.gd, 0, none⟩), .int .i64 s, .int .i64 u, .int .i64 t] (W.alloc (.cells #[.int .i64 t, .int .i64 3, .int .i64 s, .int .i64 u] 76)) (StE k ev (W.alloc (.cells #[.int .i64 t, .int .i64 3, .int .i64 s, .int .i64 u] 76)) (.int .i64 (canD R s u)) (agR k.Pf R ⟨t, 3, s, u⟩)) := doneE H0.out hO ok hlE.out s u t
    have K := hide' K0
    clear K0 H0 hO ok h h1 hl hlE hlt hl2'
    generalize agR k.Pf R ⟨t, 3, s, u⟩ = R2 at *
    generalize R.log.length = nl at *
    generalize k.gd = gd at *
    subst hev
    obtain ⟨x0, x1, x2, x3⟩ := bx4 hXb.out
    clear hXb hwd hB1
    skip
    go_enter Tryz.func52, Tryz.ntmps52
    go_wp2_with fail
    refine K.out.mono ?_
    rintro e w1 ⟨rfl, ev', hD2, hz2, hn2⟩
    clear K x0 x1 x2 x3 c5
    obtain ⟨⟨d5, hE2, y0, y1, y2, y3⟩, hQ⟩ := HT.out _ _ hD2 hz2 hn2
    obtain ⟨o2, c2, rfl, ⟨hc2, _⟩, hel⟩ := hE2
    have hQ' := hide' hQ
    clear HT hD2 hz2 hn2 hQ
    by_cases hgt : nl < R2.log.length
    · obtain ⟨x, hx⟩ : ∃ x, R2.log[nl]? = some x := ⟨_, List.getElem?_eq_getElem hgt⟩
      obtain ⟨g2, f2, rfl, a0, a1, a2, a3⟩ := hel _ x hx
      have hcmp : ∀ V : World, (Op.equalIn 10000 76 (.agg #[.int .i64 x.tick, .int .i64 x.kind, .int .i64 x.step, .int .i64 x.user]) (.agg #[.int .i64 t, .int .i64 3, .int .i64 s, .int .i64 u])).run Tryz.prog V = .ok (decide (x = ⟨t, 3, s, u⟩)) V := fun V => ev_cmp _ _ _ _ _ _ _ _ V
      have hb : Hid (decide (x = ⟨t, 3, s, u⟩) = decide (R2.log[nl]? = some ⟨t, 3, s, u⟩)) := by show _ = _; rw [hx]; simp
      have hgt' : (nl : Int) < (R2.log.length : Int) := by omega
      clear hel hx
      generalize decide (x = ⟨t, 3, s, u⟩) = bb at *
      generalize x.tick = q0 at *
      generalize x.kind = q1 at *
      generalize x.step = q2 at *
      generalize x.user = q3 at *
      generalize R2.log.length = n2 at *
      go_wp2
      go_quiet (fail)
      go_wp2
      exact hQ'.out _ (below_drewR (Below.refl _ _) _) _ hb.out
    · have hb : Hid (false = decide (R2.log[nl]? = some ⟨t, 3, s, u⟩)) := by show _ = _; rw [List.getElem?_eq_none (by omega)]; rfl
      have hgt' : ¬ (nl : Int) < (R2.log.length : Int) := by omega
      clear hel
      generalize R2.log.length = n2 at *
      go_wp2
      go_quiet (fail)
      go_wp2
      exact hQ'.out _ (below_drewR (Below.refl _ _) _) _ hb.out
  have n3 : (kd == 3) = false := by rw [beq_eq_false_iff_ne]; exact k3
  by_cases k4 : kd = 4
  · as_aux_lemma =>
    subst k4
    have K0 : Calls Tryz.prog 88 #[.pointer (some ⟨k.gd, 0, none⟩), .int .i64 t] (W.alloc (.cells #[.int .i64 t, .int .i64 4, .int .i64 s, .int .i64 u] 76)) (StE k ev (W.alloc (.cells #[.int .i64 t, .int .i64 4, .int .i64 s, .int .i64 u] 76)) (.int .i64 (if endd R = true then 30 else 0)) (agR k.Pf R ⟨t, 4, s, u⟩)) := abortE H0.out hlE.out t
    have K := hide' K0
    clear K0 H0 hO ok h h1 hl hlE hlt hl2'
    generalize agR k.Pf R ⟨t, 4, s, u⟩ = R2 at *
    generalize R.log.length = nl at *
    generalize k.gd = gd at *
    subst hev
    obtain ⟨x0, x1, x2, x3⟩ := bx4 hXb.out
    clear hXb hwd hB1
    generalize (if endd R = true then (30 : Int) else 0) = zz at *
    go_enter Tryz.func52, Tryz.ntmps52
    go_wp2_with fail
    refine K.out.mono ?_
    rintro e w1 ⟨rfl, ev', hD2, hz2, hn2⟩
    clear K x0 x1 x2 x3 c5
    obtain ⟨⟨d5, hE2, y0, y1, y2, y3⟩, hQ⟩ := HT.out _ _ hD2 hz2 hn2
    obtain ⟨o2, c2, rfl, ⟨hc2, _⟩, hel⟩ := hE2
    have hQ' := hide' hQ
    clear HT hD2 hz2 hn2 hQ
    by_cases hgt : nl < R2.log.length
    · obtain ⟨x, hx⟩ : ∃ x, R2.log[nl]? = some x := ⟨_, List.getElem?_eq_getElem hgt⟩
      obtain ⟨g2, f2, rfl, a0, a1, a2, a3⟩ := hel _ x hx
      have hcmp : ∀ V : World, (Op.equalIn 10000 76 (.agg #[.int .i64 x.tick, .int .i64 x.kind, .int .i64 x.step, .int .i64 x.user]) (.agg #[.int .i64 t, .int .i64 4, .int .i64 s, .int .i64 u])).run Tryz.prog V = .ok (decide (x = ⟨t, 4, s, u⟩)) V := fun V => ev_cmp _ _ _ _ _ _ _ _ V
      have hb : Hid (decide (x = ⟨t, 4, s, u⟩) = decide (R2.log[nl]? = some ⟨t, 4, s, u⟩)) := by show _ = _; rw [hx]; simp
      have hgt' : (nl : Int) < (R2.log.length : Int) := by omega
      clear hel hx
      generalize decide (x = ⟨t, 4, s, u⟩) = bb at *
      generalize x.tick = q0 at *
      generalize x.kind = q1 at *
      generalize x.step = q2 at *
      generalize x.user = q3 at *
      generalize R2.log.length = n2 at *
      go_wp2
      go_quiet (fail)
      go_wp2
      exact hQ'.out _ (below_drewR (Below.refl _ _) _) _ hb.out
    · have hb : Hid (false = decide (R2.log[nl]? = some ⟨t, 4, s, u⟩)) := by show _ = _; rw [List.getElem?_eq_none (by omega)]; rfl
      have hgt' : ¬ (nl : Int) < (R2.log.length : Int) := by omega
      clear hel
      generalize R2.log.length = n2 at *
      go_wp2
      go_quiet (fail)
      go_wp2
      exact hQ'.out _ (below_drewR (Below.refl _ _) _) _ hb.out
  have n4 : (kd == 4) = false := by rw [beq_eq_false_iff_ne]; exact k4
  by_cases k5 : kd = 5
  · as_aux_lemma =>
    subst k5
    have K0 : Calls Tryz.prog 89 #[.pointer (some ⟨k.gd, 0, none⟩), .bool true, .int .i64 t] (W.alloc (.cells #[.int .i64 t, .int .i64 5, .int .i64 s, .int .i64 u] 76)) (StE k ev (W.alloc (.cells #[.int .i64 t, .int .i64 5, .int .i64 s, .int .i64 u] 76)) (.bool (mrkB R true)) (agR k.Pf R ⟨t, 5, s, u⟩)) := markE H0.out hlE.out true t
    have K := hide' K0
    clear K0 H0 hO ok h h1 hl hlE hlt hl2'
    generalize agR k.Pf R ⟨t, 5, s, u⟩ = R2 at *
    generalize R.log.length = nl at *
    generalize k.gd = gd at *
    subst hev
    obtain ⟨x0, x1, x2, x3⟩ := bx4 hXb.out
    clear hXb hwd hB1
    skip
    go_enter Tryz.func52, Tryz.ntmps52
    go_wp2_with fail
    refine K.out.mono ?_
    rintro e w1 ⟨rfl, ev', hD2, hz2, hn2⟩
    clear K x0 x1 x2 x3 c5
    obtain ⟨⟨d5, hE2, y0, y1, y2, y3⟩, hQ⟩ := HT.out _ _ hD2 hz2 hn2
    obtain ⟨o2, c2, rfl, ⟨hc2, _⟩, hel⟩ := hE2
    have hQ' := hide' hQ
    clear HT hD2 hz2 hn2 hQ
    by_cases hgt : nl < R2.log.length
    · obtain ⟨x, hx⟩ : ∃ x, R2.log[nl]? = some x := ⟨_, List.getElem?_eq_getElem hgt⟩
      obtain ⟨g2, f2, rfl, a0, a1, a2, a3⟩ := hel _ x hx
      have hcmp : ∀ V : World, (Op.equalIn 10000 76 (.agg #[.int .i64 x.tick, .int .i64 x.kind, .int .i64 x.step, .int .i64 x.user]) (.agg #[.int .i64 t, .int .i64 5, .int .i64 s, .int .i64 u])).run Tryz.prog V = .ok (decide (x = ⟨t, 5, s, u⟩)) V := fun V => ev_cmp _ _ _ _ _ _ _ _ V
      have hb : Hid (decide (x = ⟨t, 5, s, u⟩) = decide (R2.log[nl]? = some ⟨t, 5, s, u⟩)) := by show _ = _; rw [hx]; simp
      have hgt' : (nl : Int) < (R2.log.length : Int) := by omega
      clear hel hx
      generalize decide (x = ⟨t, 5, s, u⟩) = bb at *
      generalize x.tick = q0 at *
      generalize x.kind = q1 at *
      generalize x.step = q2 at *
      generalize x.user = q3 at *
      generalize R2.log.length = n2 at *
      go_wp2
      go_quiet (fail)
      go_wp2
      exact hQ'.out _ (below_drewR (Below.refl _ _) _) _ hb.out
    · have hb : Hid (false = decide (R2.log[nl]? = some ⟨t, 5, s, u⟩)) := by show _ = _; rw [List.getElem?_eq_none (by omega)]; rfl
      have hgt' : ¬ (nl : Int) < (R2.log.length : Int) := by omega
      clear hel
      generalize R2.log.length = n2 at *
      go_wp2
      go_quiet (fail)
      go_wp2
      exact hQ'.out _ (below_drewR (Below.refl _ _) _) _ hb.out
  have n5 : (kd == 5) = false := by rw [beq_eq_false_iff_ne]; exact k5
  by_cases k6 : kd = 6
  · as_aux_lemma =>
    subst k6
    have K0 : Calls Tryz.prog 89 #[.pointer (some ⟨k.gd, 0, none⟩), .bool false, .int .i64 t] (W.alloc (.cells #[.int .i64 t, .int .i64 6, .int .i64 s, .int .i64 u] 76)) (StE k ev (W.alloc (.cells #[.int .i64 t, .int .i64 6, .int .i64 s, .int .i64 u] 76)) (.bool (mrkB R false)) (agR k.Pf R ⟨t, 6, s, u⟩)) := markE H0.out hlE.out false t
    have K := hide' K0
    clear K0 H0 hO ok h h1 hl hlE hlt hl2'
    generalize agR k.Pf R ⟨t, 6, s, u⟩ = R2 at *
    generalize R.log.length = nl at *
    generalize k.gd = gd at *
    subst hev
    obtain ⟨x0, x1, x2, x3⟩ := bx4 hXb.out
    clear hXb hwd hB1
    skip
    go_enter Tryz.func52, Tryz.ntmps52
    go_wp2_with fail
    refine K.out.mono ?_
    rintro e w1 ⟨rfl, ev', hD2, hz2, hn2⟩
    clear K x0 x1 x2 x3 c5
    obtain ⟨⟨d5, hE2, y0, y1, y2, y3⟩, hQ⟩ := HT.out _ _ hD2 hz2 hn2
    obtain ⟨o2, c2, rfl, ⟨hc2, _⟩, hel⟩ := hE2
    have hQ' := hide' hQ
    clear HT hD2 hz2 hn2 hQ
    by_cases hgt : nl < R2.log.length
    · obtain ⟨x, hx⟩ : ∃ x, R2.log[nl]? = some x := ⟨_, List.getElem?_eq_getElem hgt⟩
      obtain ⟨g2, f2, rfl, a0, a1, a2, a3⟩ := hel _ x hx
      have hcmp : ∀ V : World, (Op.equalIn 10000 76 (.agg #[.int .i64 x.tick, .int .i64 x.kind, .int .i64 x.step, .int .i64 x.user]) (.agg #[.int .i64 t, .int .i64 6, .int .i64 s, .int .i64 u])).run Tryz.prog V = .ok (decide (x = ⟨t, 6, s, u⟩)) V := fun V => ev_cmp _ _ _ _ _ _ _ _ V
      have hb : Hid (decide (x = ⟨t, 6, s, u⟩) = decide (R2.log[nl]? = some ⟨t, 6, s, u⟩)) := by show _ = _; rw [hx]; simp
      have hgt' : (nl : Int) < (R2.log.length : Int) := by omega
      clear hel hx
      generalize decide (x = ⟨t, 6, s, u⟩) = bb at *
      generalize x.tick = q0 at *
      generalize x.kind = q1 at *
      generalize x.step = q2 at *
      generalize x.user = q3 at *
      generalize R2.log.length = n2 at *
      go_wp2
      go_quiet (fail)
      go_wp2
      exact hQ'.out _ (below_drewR (Below.refl _ _) _) _ hb.out
    · have hb : Hid (false = decide (R2.log[nl]? = some ⟨t, 6, s, u⟩)) := by show _ = _; rw [List.getElem?_eq_none (by omega)]; rfl
      have hgt' : ¬ (nl : Int) < (R2.log.length : Int) := by omega
      clear hel
      generalize R2.log.length = n2 at *
      go_wp2
      go_quiet (fail)
      go_wp2
      exact hQ'.out _ (below_drewR (Below.refl _ _) _) _ hb.out
  have n6 : (kd == 6) = false := by rw [beq_eq_false_iff_ne]; exact k6
  have hag : agR k.Pf R ⟨t, kd, s, u⟩ = R := by unfold agR; simp [k2, k3, k4, k5, k6]
  obtain ⟨hQ0, hQ⟩ := HT.out ev _ (by rw [hag]; exact H0.out) (Zf.refl _ _) (Nf.refl _ _)
  obtain ⟨-, -, x0, x1, x2, x3⟩ := hQ0
  have hQ' := hide' hQ
  have hb : Hid (false = decide ((agR k.Pf R ⟨t, kd, s, u⟩).log[R.log.length]? = some ⟨t, kd, s, u⟩)) := by show _ = _; rw [hag, List.getElem?_eq_none (Nat.le_refl _)]; rfl
  clear HT hQ H0 hag hO ok h h1 hl hlE hl2'
  generalize agR k.Pf R ⟨t, kd, s, u⟩ = R2 at *
  have hgt' : ¬ (R.log.length : Int) < (R.log.length : Int) := by omega
  subst hev
  generalize R.log.length = nl at *
  generalize k.gd = gd at *
  clear hXb hwd hB1 k2 k3 k4 k5 k6
  go_enter Tryz.func52, Tryz.ntmps52
  go_wp2
  go_quiet (fail)
  go_wp2
  exact hQ'.out _ (below_drewR (Below.refl _ _) _) _ hb.out
end
end Go.Proofs.YtahfobbiaimoiaaGreatDoor
