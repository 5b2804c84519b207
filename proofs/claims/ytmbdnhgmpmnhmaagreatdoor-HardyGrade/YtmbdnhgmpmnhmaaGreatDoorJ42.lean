/- HardyGrade, walked. -/
import Derived.Test.YtmbdnhgmpmnhmaaGreatDoorJ34
import Derived.Test.YtmbdnhgmpmnhmaaGreatDoorJ40
import Derived.Test.YtmbdnhgmpmnhmaaGreatDoorJ41
namespace Go.Proofs.YtmbdnhgmpmnhmaaGreatDoor.S
open Go.RowKit Go.Shelf
set_option maxRecDepth 100000 in
set_option maxHeartbeats 4000000 in
theorem hardyGrade_walk (P : Pb) (wv fv rv : Value) (w : World) (h : PbV w P wv fv rv) (hb : ∀ z ∈ P.who, z < 18446744073709551616) (ht : M.Tab w) :
    Calls Tryz.prog 5 #[pbV P wv fv rv] w fun e w' => e = .returned (.bool true) ∧ Below w.heap.size w w' := by
  have hB0 : Hid (Below w.heap.size w (w.alloc (.cells #[.int .i64 P.users, wv, fv, rv] 26))) := (Below.refl _ w).alloc (Nat.le_refl _) _
  have K0 := hide' (cutC P wv fv rv _ (h.below hB0.out))
  have hk := hide' (cutP_ok hb)
  have ht' := hide' ht
  have hQb : Hid (∀ V (a b c : Value), PbV V (cutP P) a b c → Calls Tryz.prog 6 #[pbV (cutP P) a b c] V fun e w' => ∃ va vb vc, e = .returned (pbV (cutP P) va vb vc) ∧ Hid (PbV w' (cutP P) va vb vc) ∧ Hid (Below V.heap.size V w')) := fun V a b c hq => (cutD P a b c V hq).mono fun e w' ⟨va, vb, vc, e1, e2, e3, _⟩ => ⟨va, vb, vc, e1, e2, e3⟩
  clear h ht hb
  unfold pbV at K0 hQb ⊢
  generalize cutP P = Q at *
  go_enter Tryz.func5, Tryz.ntmps5
  go_wp2_with fail
  refine K0.out.mono ?_
  rintro e w1 ⟨qw, qf, qr, rfl, hq1, hb1, _⟩
  have hB1 : Hid (Below w.heap.size w w1) := hB0.out.trans (hb1.out.mono hB0.out.size)
  obtain ⟨ow, cw, of, cf, or, cr, rfl, rfl, rfl⟩ := hq1.out.shape
  have hQ2 := hide' (TxH.start hq1.out)
  have hB2 : Hid (Below w.heap.size w (w1.alloc (.cells #[.int .i64 Q.users, .slice ow Q.who.length cw, .slice of Q.fixed.length cf, .slice or Q.rules.length cr] 26))) := hB1.out.alloc hB1.out.size _
  clear hb1 hB0 K0 hq1 hB1
  go_upto_region 2 with fail
  generalize w1.alloc (.cells #[.int .i64 Q.users, .slice ow Q.who.length cw, .slice of Q.fixed.length cf, .slice or Q.rules.length cr] 26) = w2 at *
  generalize w1.heap.size = g at *
  clear w1
  have hcl : Hid (∀ V, Below w2.heap.size w2 V → V.cell? ⟨g, 0, none⟩ = some (.int .i64 Q.users) ∧ V.cell? ⟨g, 1, none⟩ = some (.slice ow Q.who.length cw) ∧ V.cell? ⟨g, 2, none⟩ = some (.slice of Q.fixed.length cf) ∧ V.cell? ⟨g, 3, none⟩ = some (.slice or Q.rules.length cr)) := fun V hV => (hQ2.out.over hV).pb.all
  have KCt : Hid (∀ V, Below w2.heap.size w2 V → Calls Tryz.prog 6 #[.agg #[.int .i64 Q.users, .slice ow Q.who.length cw, .slice of Q.fixed.length cf, .slice or Q.rules.length cr]] V fun e w' => ∃ va vb vc, e = .returned (.agg #[.int .i64 Q.users, va, vb, vc]) ∧ Hid (PbV w' Q va vb vc) ∧ Hid (Below V.heap.size V w')) := fun V hV => hQb.out V _ _ _ (hQ2.out.over hV).pv
  have KG : Hid (∀ V va vb vc, Below w2.heap.size w2 V → PbV V Q va vb vc → Calls Tryz.prog 17 #[.agg #[.int .i64 Q.users, va, vb, vc]] V fun e w' => e = .returned (.int .i64 (graP Q)) ∧ Below V.heap.size V w') := fun V va vb vc hV hq => gradeF Q va vb vc V hq hk.out (ht'.out.over (hB2.out.trans (hV.mono hB2.out.size)))
  have KD : Hid (∀ V, Below w2.heap.size w2 V → Calls Tryz.prog 18 #[.agg #[.int .i64 Q.users, .slice ow Q.who.length cw, .slice of Q.fixed.length cf, .slice or Q.rules.length cr]] V fun e w' => e = .returned (.int .i64 (graP Q)) ∧ Below V.heap.size V w') := fun V hV => gradeD Q _ _ _ V (hQ2.out.over hV).pv hk.out (ht'.out.over (hB2.out.trans (hV.mono hB2.out.size)))
  have KWk : Hid (∀ V, Below w2.heap.size w2 V → Calls Tryz.prog 12 #[] V fun e w' => e = .returned (.bool true) ∧ Below V.heap.size V w') := fun V hV => wakesHF V (ht'.out.over (hB2.out.trans (hV.mono hB2.out.size)))
  have h0 : Hid (Below w2.heap.size w2 w2.drew) := (Below.refl _ w2).drew
  obtain ⟨q0, q1, q2, q3⟩ := hcl.out _ h0.out
  clear hQb hk ht' hQ2
  generalize graP Q = G at *
  have hGG : (G == G) = true := by simp
  go_region_held3 (fun V => V.cell? ⟨g, 0, none⟩ = some (.int .i64 Q.users) ∧ V.cell? ⟨g, 1, none⟩ = some (.slice ow Q.who.length cw) ∧ V.cell? ⟨g, 2, none⟩ = some (.slice of Q.fixed.length cf) ∧ V.cell? ⟨g, 3, none⟩ = some (.slice or Q.rules.length cr)) (first | (exact hcl.out _ h0.out) | (exact hcl.out _ h1.out) | (exact hcl.out _ h2.out) | (exact hcl.out _ h3.out) | (exact hcl.out _ h4.out)) (first | (go_at_call 6; refine (KCt.out _ h0.out).mono ?_; rintro e v1 ⟨va, vb, vc, rfl, hp1, hb1⟩; have h1 : Hid (Below w2.heap.size w2 v1) := h0.out.trans (hb1.out.mono h0.out.size)) | (go_at_call 17; refine (KG.out _ _ _ _ h1.out hp1.out).mono ?_; rintro e v2 ⟨rfl, hb2⟩; have h2 : Hid (Below w2.heap.size w2 v2) := h1.out.trans (hb2.mono h1.out.size)) | (go_at_call 18; refine (KD.out _ h2.out).mono ?_; rintro e v3 ⟨rfl, hb3⟩; have h3 : Hid (Below w2.heap.size w2 v3) := h2.out.trans (hb3.mono h2.out.size)) | (go_at_call 12; refine (KWk.out _ h3.out).mono ?_; rintro e v4 ⟨rfl, hb4⟩; have h4 : Hid (Below w2.heap.size w2 v4) := h3.out.trans (hb4.mono h3.out.size)))
  all_goals
    have hE : Hid (Below w.heap.size w v4) := hB2.out.trans (h4.out.mono hB2.out.size)
    clear h0 h1 h2 h3 h4 hcl KCt KG KD KWk
    go_wp2
    go_ret
    exact ⟨rfl, hE.out⟩
end Go.Proofs.YtmbdnhgmpmnhmaaGreatDoor.S
