/- HardyWeak, walked. -/
import Derived.Test.YtmbdnhgmpmnhmaaGreatDoorJ34
import Derived.Test.YtmbdnhgmpmnhmaaGreatDoorJ40
import Derived.Test.YtmbdnhgmpmnhmaaGreatDoorJ41
namespace Go.Proofs.YtmbdnhgmpmnhmaaGreatDoor.S
open Go.RowKit Go.Shelf
set_option maxRecDepth 100000 in
set_option maxHeartbeats 4000000 in
theorem hardyWeak_walk (P : Pb) (wv fv rv : Value) (z : Int) (w : World) (h : PbV w P wv fv rv) (hb : ∀ z ∈ P.who, z < 18446744073709551616) (ht : M.Tab w) :
    Calls Tryz.prog 4 #[pbV P wv fv rv, .int .i64 z] w fun e w' => e = .returned (.bool true) ∧ Below w.heap.size w w' := by
  have hB0 : Hid (Below w.heap.size w (w.alloc (.cells #[.int .i64 P.users, wv, fv, rv] 26))) := (Below.refl _ w).alloc (Nat.le_refl _) _
  have K0 := hide' (cutC P wv fv rv _ (h.below hB0.out))
  have hk := hide' (cutP_ok hb)
  have ht' := hide' ht
  have hQb : Hid (∀ V (a b c : Value), PbV V (cutP P) a b c → Calls Tryz.prog 6 #[pbV (cutP P) a b c] V fun e w' => ∃ va vb vc, e = .returned (pbV (cutP P) va vb vc) ∧ Hid (PbV w' (cutP P) va vb vc) ∧ Hid (Below V.heap.size V w')) := fun V a b c hq => (cutD P a b c V hq).mono fun e w' ⟨va, vb, vc, e1, e2, e3, _⟩ => ⟨va, vb, vc, e1, e2, e3⟩
  clear h ht hb
  unfold pbV at K0 hQb ⊢
  generalize cutP P = Q at *
  go_enter Tryz.func4, Tryz.ntmps4
  go_wp2_with fail
  refine K0.out.mono ?_
  rintro e w1 ⟨qw, qf, qr, rfl, hq1, hb1, _⟩
  have hB1 : Hid (Below w.heap.size w w1) := hB0.out.trans (hb1.out.mono hB0.out.size)
  obtain ⟨ow, cw, of, cf, or, cr, rfl, rfl, rfl⟩ := hq1.out.shape
  have hQ2 := hide' (TxH.start hq1.out)
  have hB2 : Hid (Below w.heap.size w (w1.alloc (.cells #[.int .i64 Q.users, .slice ow Q.who.length cw, .slice of Q.fixed.length cf, .slice or Q.rules.length cr] 26))) := hB1.out.alloc hB1.out.size _
  clear hb1 hB0 K0 hq1 hB1
  go_upto_region 2 with fail
  generalize w1.alloc (.cells #[.int .i64 Q.users, .slice ow Q.who.length cw, .slice of Q.fixed.length cf, .slice or Q.rules.length cr] 26) = w2 at *
  generalize w1.heap.size = g at *
  clear w1
  have hcl : Hid (∀ V, Below w2.heap.size w2 V → V.cell? ⟨g, 0, none⟩ = some (.int .i64 Q.users) ∧ V.cell? ⟨g, 1, none⟩ = some (.slice ow Q.who.length cw) ∧ V.cell? ⟨g, 2, none⟩ = some (.slice of Q.fixed.length cf) ∧ V.cell? ⟨g, 3, none⟩ = some (.slice or Q.rules.length cr)) := fun V hV => (hQ2.out.over hV).pb.all
  have KCt : Hid (∀ V, Below w2.heap.size w2 V → Calls Tryz.prog 6 #[.agg #[.int .i64 Q.users, .slice ow Q.who.length cw, .slice of Q.fixed.length cf, .slice or Q.rules.length cr]] V fun e w' => ∃ va vb vc, e = .returned (.agg #[.int .i64 Q.users, va, vb, vc]) ∧ Hid (PbV w' Q va vb vc) ∧ Hid (Below V.heap.size V w')) := fun V hV => hQb.out V _ _ _ (hQ2.out.over hV).pv
  have KW : Hid (∀ V va vb vc, Below w2.heap.size w2 V → PbV V Q va vb vc → Calls Tryz.prog 13 #[.agg #[.int .i64 Q.users, va, vb, vc], .int .i64 z] V (WeP V (weaP Q z))) := fun V va vb vc hV hq => weakWF Q va vb vc z V hq hk.out (ht'.out.over (hB2.out.trans (hV.mono hB2.out.size)))
  have KWD : Hid (∀ V, Below w2.heap.size w2 V → Calls Tryz.prog 14 #[.agg #[.int .i64 Q.users, .slice ow Q.who.length cw, .slice of Q.fixed.length cf, .slice or Q.rules.length cr], .int .i64 z] V (WeD V (weaP Q z))) := fun V hV => weakWD Q _ _ _ z V (hQ2.out.over hV).pv hk.out (ht'.out.over (hB2.out.trans (hV.mono hB2.out.size)))
  have KN : Hid (∀ V va vb vc, Below w2.heap.size w2 V → PbV V Q va vb vc → Calls Tryz.prog 15 #[.agg #[.int .i64 Q.users, va, vb, vc]] V fun e w' => e = .returned (.int .u64 ((nedP Q : Nat) : Int)) ∧ Below V.heap.size V w') := fun V va vb vc hV hq => neededF Q va vb vc V hq hk.out (ht'.out.over (hB2.out.trans (hV.mono hB2.out.size)))
  have KND : Hid (∀ V, Below w2.heap.size w2 V → Calls Tryz.prog 16 #[.agg #[.int .i64 Q.users, .slice ow Q.who.length cw, .slice of Q.fixed.length cf, .slice or Q.rules.length cr]] V fun e w' => e = .returned (.int .u64 ((nedP Q : Nat) : Int)) ∧ Below V.heap.size V w') := fun V hV => neededD Q _ _ _ V (hQ2.out.over hV).pv hk.out (ht'.out.over (hB2.out.trans (hV.mono hB2.out.size)))
  have KWk : Hid (∀ V, Below w2.heap.size w2 V → Calls Tryz.prog 12 #[] V fun e w' => e = .returned (.bool true) ∧ Below V.heap.size V w') := fun V hV => wakesHF V (ht'.out.over (hB2.out.trans (hV.mono hB2.out.size)))
  unfold WeP at KW
  unfold WeD at KWD
  have hL64 : Hid ((numN ((weaP Q z).getD 0)).length ≤ 64) := by show _ ≤ _; unfold numN; rw [List.length_map, M.len_nums]; exact M.cnt_le 64 _
  clear hQb hk ht'
  generalize (weaP Q z).isSome = bs at *
  generalize (weaP Q z).getD 0 = y at *
  generalize nedP Q = nd at *
  obtain ⟨q0, q1, q2, q3⟩ := hQ2.out.pb.all
  clear hQ2
  go_wp2_with fail
  refine (KCt.out _ (Below.refl _ _)).mono ?_
  rintro e w3 ⟨va, vb, vc, rfl, hq3, hb3⟩
  clear q0 q1 q2 q3
  go_wp2_with fail
  refine (KW.out _ _ _ _ hb3.out hq3.out).mono ?_
  rintro e w4 ⟨v, rfl, hO4, hb4⟩
  have hB4 : Hid (Below w2.heap.size w2 w4) := hb3.out.trans (hb4.out.mono hb3.out.size)
  have hR4 : Hid (RowI w4 v (ints (numN y))) := by
    have h2' := hO4.out
    have he : M.intsOf (M.nums y) = cellsI (ints (numN y)) := by
      rw [ints_numsH]; unfold ints numN; rw [List.map_map]; rfl
    rw [he] at h2'
    exact RowI.of_owns h2'
  obtain ⟨oo, co, rfl, _, _⟩ := hR4.out
  obtain ⟨q0, q1, q2, q3⟩ := hcl.out _ hB4.out
  clear hO4 hb4 hq3 hb3 KW
  go_wp2_with fail
  refine (KWD.out _ hB4.out).mono ?_
  rintro e w5 ⟨o5, n5, c5, rfl, hR5, hb5⟩
  have hB5 : Hid (Below w2.heap.size w2 w5) := hB4.out.trans (hb5.out.mono hB4.out.size)
  have hl5 := hide' (hR4.out.below hb5.out (Nat.le_refl _))
  clear hR4 hb5 hB4 KWD q0 q1 q2 q3
  go_upto_region 4 with fail
  have h0 : Hid (Below w2.heap.size w2 w5.drew) := hB5.out.drew
  have hbd : Below w5.heap.size w5 w5.drew := (Below.refl _ w5).drew
  have KIn : Hid (Calls Tryz.prog 10 #[.slice oo (ints (numN y)).length co, .slice o5 n5 c5] w5.drew fun e w' => e = .returned (.bool true) ∧ Below w5.drew.heap.size w5.drew w') := by
    have := keepInts (ints (numN y)) (ints (numN y)) _ _ w5.drew (hl5.out.below hbd (Nat.le_refl _)) (hR5.out.below hbd (Nat.le_refl _)) (by rw [ints_len]; have := hL64.out; omega) (by rw [ints_len]; have := hL64.out; omega)
    unfold Hid
    simpa using this
  obtain ⟨q0, q1, q2, q3⟩ := hcl.out _ h0.out
  have hbb : (bs == bs) = true := by simp
  have hdd : ((nd : Int) == (nd : Int)) = true := by simp
  clear hl5 hR5 hB5 hbd hL64
  go_region_held3 (fun V => V.cell? ⟨g, 0, none⟩ = some (.int .i64 Q.users) ∧ V.cell? ⟨g, 1, none⟩ = some (.slice ow Q.who.length cw) ∧ V.cell? ⟨g, 2, none⟩ = some (.slice of Q.fixed.length cf) ∧ V.cell? ⟨g, 3, none⟩ = some (.slice or Q.rules.length cr)) (first | (exact hcl.out _ h0.out) | (exact hcl.out _ h1.out) | (exact hcl.out _ h2.out) | (exact hcl.out _ h3.out) | (exact hcl.out _ h4.out) | (exact hcl.out _ h5.out)) (first | (go_at_call 10; refine KIn.out.mono ?_; rintro e v1 ⟨rfl, hb1⟩; have h1 : Hid (Below w2.heap.size w2 v1) := h0.out.trans (hb1.mono h0.out.size)) | (go_at_call 6; refine (KCt.out _ h1.out).mono ?_; rintro e v2 ⟨va, vb, vc, rfl, hp2, hb2⟩; have h2 : Hid (Below w2.heap.size w2 v2) := h1.out.trans (hb2.out.mono h1.out.size)) | (go_at_call 15; refine (KN.out _ _ _ _ h2.out hp2.out).mono ?_; rintro e v3 ⟨rfl, hb3⟩; have h3 : Hid (Below w2.heap.size w2 v3) := h2.out.trans (hb3.mono h2.out.size)) | (go_at_call 16; refine (KND.out _ h3.out).mono ?_; rintro e v4 ⟨rfl, hb4⟩; have h4 : Hid (Below w2.heap.size w2 v4) := h3.out.trans (hb4.mono h3.out.size)) | (go_at_call 12; refine (KWk.out _ h4.out).mono ?_; rintro e v5 ⟨rfl, hb5⟩; have h5 : Hid (Below w2.heap.size w2 v5) := h4.out.trans (hb5.mono h4.out.size)))
  all_goals
    have hE : Hid (Below w.heap.size w v5) := hB2.out.trans (h5.out.mono hB2.out.size)
    clear h0 h1 h2 h3 h4 h5 hcl KCt KN KND KWk KIn
    go_wp2
    go_ret
    exact ⟨rfl, hE.out⟩
end Go.Proofs.YtmbdnhgmpmnhmaaGreatDoor.S
